package body_test

import (
	"math"
	"slices"
	"strings"
	"testing"

	"hermitage/api"
	"hermitage/body"
)

// told is all answers of one call.
type told struct {
	s     string
	m     int
	x     []string
	fresh []int
	e     api.Errno
}

// only tells whether e is the one thing that was told.
func (a told) only(e api.Errno) bool {
	return a.e == e && a.s == "" && a.m == 0 && len(a.x) == 0 && len(a.fresh) == 0
}

func read(n int, l []string, at, many int) (a told) {
	a.s, a.e = body.Read(n, l, at, many)
	return a
}

func write(n int, l []string, at int, t string) (a told) {
	a.m, a.x, a.fresh, a.e = body.Write(n, l, at, t)
	return a
}

func size(n int, l []string, to int) (a told) {
	a.m, a.x, a.fresh, a.e = body.Size(n, l, to)
	return a
}

func join(n int, l []string) (a told) {
	a.s, a.e = body.Join(n, l)
	return a
}

// outside are numbers below 0 and above most; with the greatest a sum would wrap round.
func outside(most int) []int {
	return []int{-1, -2, -api.Sector, math.MinInt, math.MinInt + 1, -1 << 32, most + 1, most + 2, most + api.Sector, 1 << 32, 1<<32 + most, math.MaxInt - api.Sector, math.MaxInt - 1, math.MaxInt}
}

// form is a length and pieces that may not be.
type form struct {
	what string
	n    int
	l    []string
}

// forms are lengths and pieces that may not be, around each length at an edge.
func forms() (all []form) {
	for _, n := range lengths() {
		l := layout(text(n, 11))
		all = append(all,
			form{"one too many", n, append(slices.Clone(l), strings.Repeat("\x00", api.Sector))},
			form{"an empty one too many", n, append(slices.Clone(l), "")},
			form{"two too many", n, append(slices.Clone(l), l0(l), l0(l))})
		for i := range l {
			short, long := slices.Clone(l), slices.Clone(l)
			short[i], long[i] = short[i][:api.Sector-1], long[i]+"\x00"
			none := slices.Clone(l)
			none[i] = ""
			all = append(all, form{"short", n, short}, form{"long", n, long}, form{"none", n, none})
			// Right in all, though not one by one.
			if i > 0 {
				split := slices.Clone(l)
				split[i-1], split[i] = split[i-1]+split[i][:1], split[i][1:]
				all = append(all, form{"uneven", n, split})
			}
			all = append(all, form{"too few", n, l[:i]})
		}
		for at := n; at < len(l)*api.Sector; at++ {
			spoilt := slices.Clone(l)
			last := []byte(spoilt[len(l)-1])
			last[at%api.Sector] = 1
			spoilt[len(l)-1] = string(last)
			all = append(all, form{"not 0 behind the end", n, spoilt})
			last[at%api.Sector] = 0xff
			spoilt = slices.Clone(spoilt)
			spoilt[len(l)-1] = string(last)
			all = append(all, form{"not 0 behind the end", n, spoilt})
		}
	}
	for _, n := range outside(api.MaxText) {
		for k := range 9 {
			all = append(all, form{"length", n, slices.Repeat([]string{strings.Repeat("\x00", api.Sector)}, k)})
		}
	}
	return all
}

func l0(l []string) string {
	if len(l) == 0 {
		return strings.Repeat("a", api.Sector)
	}
	return l[0]
}

// P4.1, P4.2: ErrForm ahead of all, also ahead of ErrLimit, of lengths and pieces that may not be.
func TestForms(t *testing.T) {
	over := text(api.MaxText+1, 0)
	for _, f := range forms() {
		all := []told{
			join(f.n, f.l), read(f.n, f.l, 0, 0), read(f.n, f.l, 0, 5), read(f.n, f.l, -1, -1), read(f.n, f.l, f.n, 0),
			write(f.n, f.l, 0, ""), write(f.n, f.l, 0, "x"), write(f.n, f.l, 0, over), write(f.n, f.l, -1, over), write(f.n, f.l, f.n, "x"),
			size(f.n, f.l, 0), size(f.n, f.l, f.n), size(f.n, f.l, api.MaxText), size(f.n, f.l, api.MaxText+1), size(f.n, f.l, -1),
		}
		for i, a := range all {
			if !a.only(api.ErrForm) {
				t.Fatalf("%s, %d bytes in %q: call %d: %+v", f.what, f.n, f.l, i, a)
			}
		}
	}
}

// P4.1: Read's numbers: at from 0 to n, many from 0 on.
func TestReadForm(t *testing.T) {
	for _, n := range lengths() {
		l := layout(text(n, 1))
		for _, at := range outside(n) {
			for _, many := range []int{0, 1, -1, math.MaxInt, math.MinInt} {
				if a := read(n, l, at, many); !a.only(api.ErrForm) {
					t.Errorf("%d from %d on, of %d: %+v", many, at, n, a)
				}
			}
		}
		for _, many := range []int{-1, -2, math.MinInt, math.MinInt + 1, -1 << 32} {
			for _, at := range []int{0, n / 2, n} {
				if a := read(n, l, at, many); !a.only(api.ErrForm) {
					t.Errorf("%d from %d on, of %d: %+v", many, at, n, a)
				}
			}
		}
	}
}

// P4.2: Write's place: ErrForm, unless it is from 0 to n, ahead of ErrLimit, if it ends above MaxText.
func TestWriteWrong(t *testing.T) {
	for _, n := range lengths() {
		l := layout(text(n, 1))
		for _, at := range outside(n) {
			for _, add := range []string{"", "x", text(api.MaxText, 0), text(api.MaxText+1, 0), text(1<<16, 0)} {
				if a := write(n, l, at, add); !a.only(api.ErrForm) {
					t.Errorf("%d bytes at %d of %d: %v", len(add), at, n, a.e)
				}
			}
		}
		for at := 0; at <= n; at++ {
			for _, more := range []int{1, 2, api.Sector, 1 << 10} {
				if a := write(n, l, at, text(api.MaxText-at+more, 0)); !a.only(api.ErrLimit) {
					t.Errorf("%d too many at %d of %d: %v", more, at, n, a.e)
				}
			}
		}
	}
}

// P4.2: Size's end: ErrForm below 0, ErrLimit above MaxText.
func TestSizeWrong(t *testing.T) {
	for _, n := range lengths() {
		l := layout(text(n, 1))
		for _, to := range outside(api.MaxText) {
			want := api.ErrLimit
			if to < 0 {
				want = api.ErrForm
			}
			if a := size(n, l, to); !a.only(want) {
				t.Errorf("from %d to %d: %+v", n, to, a)
			}
		}
	}
}

// P4.1, P4.2: what is handed in stays as it was, its spare room too, and what is told is new memory.
func TestMemory(t *testing.T) {
	for _, n := range lengths() {
		s := text(n, 21)
		want := layout(s)
		room := append(slices.Clone(want), "spare", "spare")
		l := room[:len(want)]
		calls := []func() told{
			func() (a told) { a.x, a.e = body.Cut(s); return a },
			func() told { return join(n, l) },
			func() told { return read(n, l, n/2, n) },
			func() told { return write(n, l, n/2, "") },
			func() told { return write(n, l, n/2, "xyz"[:min(3, api.MaxText-n/2)]) },
			func() told { return write(n, l, n, text(api.MaxText-n, 4)) },
			func() told { return size(n, l, n) },
			func() told { return size(n, l, n/2) },
			func() told { return size(n, l, api.MaxText) },
		}
		for i, call := range calls {
			first, second := call(), call()
			again := slices.Clone(second.x)
			news := slices.Clone(second.fresh)
			for k := range first.x {
				first.x[k] = "written"
			}
			for k := range first.fresh {
				first.fresh[k] = -7
			}
			_ = append(first.x, "more")
			_ = append(first.fresh, -8)
			if first.e != api.OK || !slices.Equal(second.x, again) || !slices.Equal(second.fresh, news) {
				t.Errorf("%d, call %d: shared", n, i)
			}
			if !slices.Equal(room, append(slices.Clone(want), "spare", "spare")) {
				t.Fatalf("%d, call %d: %q", n, i, room)
			}
			if third := call(); !slices.Equal(third.x, again) || !slices.Equal(third.fresh, news) {
				t.Errorf("%d, call %d: kept", n, i)
			}
		}
	}
}

// P4.2: the document's example.
func TestExample(t *testing.T) {
	l, _ := body.Cut(text(64, 2))
	if _, _, fresh, e := body.Write(64, l, 40, "!"); e != api.OK || !slices.Equal(fresh, []int{1}) {
		t.Errorf("%v, %v", fresh, e)
	}
}
