package seg_test

import (
	"math"
	"slices"
	"strconv"
	"testing"

	"hermitage/api"
	"hermitage/seg"
)

// segs makes segments of pairs of At and Len.
func segs(x ...int) (l []api.Seg) {
	for i := 0; i+1 < len(x); i += 2 {
		l = append(l, api.Seg{At: x[i], Len: x[i+1]})
	}
	return l
}

// numbers is a set of sectors as the tests keep it: plain numbers.
type numbers map[int]bool

// segments lays them out anew, apart from the program's way.
func (s numbers) segments() (l []api.Seg) {
	for n := 0; n < api.MaxSize; n++ {
		if !s[n] {
			continue
		}
		if s[n-1] {
			l[len(l)-1].Len++
		} else {
			l = append(l, api.Seg{At: n, Len: 1})
		}
	}
	return l
}

func (s numbers) rising() (l []int) {
	for n := 0; n < api.MaxSize; n++ {
		if s[n] {
			l = append(l, n)
		}
	}
	return l
}

func where(ok func(n int) bool) numbers {
	s := numbers{}
	for n := 0; n < api.MaxSize; n++ {
		if ok(n) {
			s[n] = true
		}
	}
	return s
}

// edgeSets are all subsets of the first four and the last four sectors.
func edgeSets() (all []numbers) {
	at := []int{0, 1, 2, 3, api.MaxSize - 4, api.MaxSize - 3, api.MaxSize - 2, api.MaxSize - 1}
	for mask := 0; mask < 1<<len(at); mask++ {
		s := numbers{}
		for i, n := range at {
			if mask>>i&1 == 1 {
				s[n] = true
			}
		}
		all = append(all, s)
	}
	return all
}

// spreadSets are sets all over the device, always the same ones.
func spreadSets(many int) (all []numbers) {
	x := uint64(1)
	for range many {
		word := uint64(0)
		for range 4 {
			x = x*6364136223846793005 + 1442695040888963407
			word = word<<16 | x>>48
		}
		all = append(all, where(func(n int) bool { return word>>n&1 == 1 }))
	}
	return all
}

func same(t *testing.T, what string, got []api.Seg, e api.Errno, want []api.Seg) {
	t.Helper()
	if e != api.OK || !slices.Equal(got, want) {
		t.Errorf("%s: %v, %v: not %v", what, got, e, want)
	}
	if seg.Check(got) != api.OK {
		t.Errorf("%s: %v may not be", what, got)
	}
}

// P1.1: Check, of one segment, with both numbers around all edges.
func TestCheckOne(t *testing.T) {
	edges := []int{math.MinInt, math.MinInt + 1, -1 << 32, math.MaxInt, math.MaxInt - 1, math.MaxInt - 63, 1 << 32, 1 << 62}
	for n := -3; n <= api.MaxSize+3; n++ {
		edges = append(edges, n)
	}
	for _, at := range edges {
		for _, size := range edges {
			want := api.ErrForm
			if at >= 0 && at <= api.MaxSize && size >= 1 && size <= api.MaxSize && at+size <= api.MaxSize {
				want = api.OK
			}
			if e := seg.Check(segs(at, size)); e != want {
				t.Errorf("%d, %d: %v", at, size, e)
			}
		}
	}
}

// P1.1: Check, of several: rising, with at least one sector between two.
func TestCheckSeveral(t *testing.T) {
	for a := 0; a < 6; a++ {
		for n := 1; n < 4; n++ {
			for b := 0; b < 12; b++ {
				want := api.ErrForm
				if b > a+n {
					want = api.OK
				}
				if e := seg.Check(segs(a, n, b, 2)); e != want {
					t.Errorf("%d, %d, %d: %v", a, n, b, e)
				}
			}
		}
	}
	full := where(func(n int) bool { return n%2 == 0 }).segments()
	if len(full) != api.MaxSize/2 || seg.Check(full) != api.OK {
		t.Errorf("every other sector: %v", seg.Check(full))
	}
	if e := seg.Check(append(full, api.Seg{At: api.MaxSize, Len: 1})); e != api.ErrForm {
		t.Errorf("behind the last one: %v", e)
	}
	for i, l := range [][]api.Seg{nil, {}, segs(0, api.MaxSize), segs(api.MaxSize-1, 1)} {
		if e := seg.Check(l); e != api.OK {
			t.Errorf("%d: %v", i, e)
		}
	}
}

// P1.1: Count, Has, List, Of, Not and Join of one list.
func TestOneList(t *testing.T) {
	for _, s := range append(edgeSets(), spreadSets(300)...) {
		l, rising := s.segments(), s.rising()
		if n, e := seg.Count(l); n != len(rising) || e != api.OK {
			t.Errorf("Count(%v): %d, %v", l, n, e)
		}
		if x, e := seg.List(l); !slices.Equal(x, rising) || e != api.OK {
			t.Errorf("List(%v): %v, %v", l, x, e)
		}
		for n := -2; n < api.MaxSize+3; n++ {
			if is, e := seg.Has(l, n); is != s[n] || e != api.OK {
				t.Errorf("Has(%v, %d): %v, %v", l, n, is, e)
			}
		}
		x, e := seg.Of(rising...)
		same(t, "Of", x, e, l)
		slices.Reverse(rising)
		x, e = seg.Of(append(rising, rising...)...)
		same(t, "Of turned round, twice", x, e, l)
		x, e = seg.Join(l)
		same(t, "Join", x, e, l)
	}
}

// P1.1: Has of numbers far off.
func TestHasAnyNumber(t *testing.T) {
	for _, n := range []int{math.MinInt, -1, api.MaxSize, 1 << 32, math.MaxInt} {
		if is, e := seg.Has(segs(0, api.MaxSize), n); is || e != api.OK {
			t.Errorf("%d: %v, %v", n, is, e)
		}
	}
}

// P1.1: Not, of each n: what is left below it, or ErrForm where l ends above.
func TestNot(t *testing.T) {
	for _, s := range append(edgeSets(), spreadSets(50)...) {
		l, end := s.segments(), 0
		for n := range s {
			end = max(end, n+1)
		}
		for n := -2; n < api.MaxSize+3; n++ {
			x, e := seg.Not(l, n)
			if n >= end && n <= api.MaxSize {
				same(t, "Not", x, e, where(func(k int) bool { return k < n && !s[k] }).segments())
			} else if len(x) != 0 || e != api.ErrForm {
				t.Errorf("Not(%v, %d): %v, %v", l, n, x, e)
			}
		}
	}
	for _, n := range []int{math.MinInt, math.MaxInt, -1 << 32, 1 << 32} {
		if x, e := seg.Not(nil, n); len(x) != 0 || e != api.ErrForm {
			t.Errorf("Not(nil, %d): %v, %v", n, x, e)
		}
	}
}

// P1.1: Join, Less and Both of two lists; P1.2: Less and Both together are l.
func TestTwoLists(t *testing.T) {
	check := func(a, b numbers) {
		l, m := a.segments(), b.segments()
		join, e1 := seg.Join(l, m)
		same(t, "Join", join, e1, where(func(n int) bool { return a[n] || b[n] }).segments())
		less, e2 := seg.Less(l, m)
		same(t, "Less", less, e2, where(func(n int) bool { return a[n] && !b[n] }).segments())
		both, e3 := seg.Both(l, m)
		same(t, "Both", both, e3, where(func(n int) bool { return a[n] && b[n] }).segments())
		again, e4 := seg.Join(less, both)
		same(t, "Less and Both together", again, e4, l)
		none, e5 := seg.Both(less, both)
		same(t, "Less in Both", none, e5, nil)
	}
	edge, spread := edgeSets(), spreadSets(40)
	for i, a := range edge {
		for j, b := range edge {
			if (i+j)%3 == 0 { // a third of them: each set meets many others
				check(a, b)
			}
		}
	}
	for _, a := range spread {
		for _, b := range spread {
			check(a, b)
		}
		check(a, numbers{})
		check(numbers{}, a)
		check(a, where(func(n int) bool { return true }))
		check(a, where(func(n int) bool { return !a[n] }))
	}
}

// P1.1: Join of any number of lists; segments that touch become one.
func TestJoinMany(t *testing.T) {
	for i, c := range []struct {
		l    [][]api.Seg
		want []api.Seg
	}{
		{nil, nil},
		{[][]api.Seg{nil, {}, nil}, nil},
		{[][]api.Seg{segs(0, 2), segs(2, 2)}, segs(0, 4)},
		{[][]api.Seg{segs(2, 2), nil, segs(0, 2), segs(5, 1)}, segs(0, 4, 5, 1)},
		{[][]api.Seg{segs(0, 1, 2, 1), segs(1, 1)}, segs(0, 3)},
		{[][]api.Seg{segs(0, 64), segs(3, 1), segs(63, 1)}, segs(0, 64)},
	} {
		x, e := seg.Join(c.l...)
		same(t, "Join "+strconv.Itoa(i), x, e, c.want)
	}
	many := make([][]api.Seg, 100000)
	for i := range many {
		many[i] = segs(i%api.MaxSize, 1)
	}
	x, e := seg.Join(many...)
	same(t, "Join of many", x, e, segs(0, api.MaxSize))
	even := make([]int, 100000)
	for i := range even {
		even[i] = i % 7 * 2
	}
	x, e = seg.Of(even...)
	same(t, "Of many", x, e, segs(0, 1, 2, 1, 4, 1, 6, 1, 8, 1, 10, 1, 12, 1))
}

// wrong is lists that may not be, each for a reason of its own.
func wrong() [][]api.Seg {
	return [][]api.Seg{
		{{}}, segs(0, 0), segs(5, 0), segs(5, -1), segs(-1, 1), segs(-1, 2), segs(0, 65), segs(64, 1), segs(63, 2),
		segs(0, 2, 2, 1), segs(0, 2, 1, 1), segs(5, 1, 3, 1), segs(3, 1, 3, 1), segs(0, 1, 2, 1, 4, 0), segs(0, 1, 64, 1),
		segs(math.MaxInt, 1), segs(1, math.MaxInt), segs(math.MaxInt, math.MaxInt), segs(math.MinInt, math.MinInt),
		segs(0, 1, math.MinInt, 1), segs(math.MinInt, math.MaxInt), segs(2, 1, 0, math.MinInt),
	}
}

// P1.1: ErrForm ahead of all, and nothing beside it, wherever the list stands that may not be.
func TestErrForm(t *testing.T) {
	good := segs(0, 2, 5, 1)
	for i, x := range wrong() {
		if e := seg.Check(x); e != api.ErrForm {
			t.Errorf("%d: Check: %v", i, e)
		}
		if n, e := seg.Count(x); n != 0 || e != api.ErrForm {
			t.Errorf("%d: Count: %v, %v", i, n, e)
		}
		for _, n := range []int{0, 3, 5, -1, 99} {
			if is, e := seg.Has(x, n); is || e != api.ErrForm {
				t.Errorf("%d: Has(%d): %v, %v", i, n, is, e)
			}
		}
		if y, e := seg.List(x); len(y) != 0 || e != api.ErrForm {
			t.Errorf("%d: List: %v, %v", i, y, e)
		}
		for k, call := range []func() ([]api.Seg, api.Errno){
			func() ([]api.Seg, api.Errno) { return seg.Join(x) },
			func() ([]api.Seg, api.Errno) { return seg.Join(x, good) },
			func() ([]api.Seg, api.Errno) { return seg.Join(good, good, x) },
			func() ([]api.Seg, api.Errno) { return seg.Less(x, good) },
			func() ([]api.Seg, api.Errno) { return seg.Less(good, x) },
			func() ([]api.Seg, api.Errno) { return seg.Less(nil, x) },
			func() ([]api.Seg, api.Errno) { return seg.Both(x, good) },
			func() ([]api.Seg, api.Errno) { return seg.Both(good, x) },
			func() ([]api.Seg, api.Errno) { return seg.Both(nil, x) },
			func() ([]api.Seg, api.Errno) { return seg.Not(x, 64) },
			func() ([]api.Seg, api.Errno) { return seg.Not(x, -1) },
		} {
			if y, e := call(); len(y) != 0 || e != api.ErrForm {
				t.Errorf("%d, %d: %v, %v", i, k, y, e)
			}
		}
	}
}

// P1.1: Of refuses what is no sector of any device, wherever it stands.
func TestOfErrForm(t *testing.T) {
	for _, l := range [][]int{{-1}, {api.MaxSize}, {0, 1, 99}, {-1, 0}, {3, api.MaxSize, 4}, {math.MaxInt}, {math.MinInt}} {
		if x, e := seg.Of(l...); len(x) != 0 || e != api.ErrForm {
			t.Errorf("%v: %v, %v", l, x, e)
		}
	}
	x, e := seg.Of()
	same(t, "Of nothing", x, e, nil)
	x, e = seg.Of(api.MaxSize-1, 0)
	same(t, "Of the edges", x, e, segs(0, 1, api.MaxSize-1, 1))
}

// R2: what is handed in stays, spare room too, and what is told is new memory.
func TestCopies(t *testing.T) {
	room := segs(0, 3, 5, 4, 60, 4, 7, 7)
	l, kept := room[:3], slices.Clone(room)
	m := segs(20, 1)
	for i, call := range []func() ([]api.Seg, api.Errno){
		func() ([]api.Seg, api.Errno) { return seg.Join(l) },
		func() ([]api.Seg, api.Errno) { return seg.Join(l, m) },
		func() ([]api.Seg, api.Errno) { return seg.Join(nil, l) },
		func() ([]api.Seg, api.Errno) { return seg.Less(l, m) },
		func() ([]api.Seg, api.Errno) { return seg.Less(l, nil) },
		func() ([]api.Seg, api.Errno) { return seg.Both(l, l) },
		func() ([]api.Seg, api.Errno) { return seg.Not(l, 64) },
	} {
		x, _ := call()
		want := slices.Clone(x)
		y, _ := call()
		for k := range y {
			y[k] = api.Seg{At: 9, Len: 9}
		}
		_ = append(y, segs(1, 1, 1, 1, 1, 1)...)
		_ = append(x, segs(2, 2, 2, 2, 2, 2)...)
		if z, e := call(); e != api.OK || !slices.Equal(z, want) || !slices.Equal(x, want) {
			t.Errorf("%d: %v, %v: not %v", i, z, x, want)
		}
		if !slices.Equal(room, kept) || m[0] != (api.Seg{At: 20, Len: 1}) {
			t.Fatalf("%d: %v: changed", i, room)
		}
	}
	given := []int{5, 3, 4, 4, 0}
	if _, e := seg.Of(given...); e != api.OK || !slices.Equal(given, []int{5, 3, 4, 4, 0}) {
		t.Errorf("Of: %v, %v", given, e)
	}
}
