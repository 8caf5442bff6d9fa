package reach_test

import (
	"math"
	"slices"
	"testing"

	"hermitage/reach"
)

// P6.1: Gone of no list, of numbers in any order, below 0 and many times over, with no m, one, and several.
func TestGone(t *testing.T) {
	for i, c := range []struct {
		l    []int
		m    [][]int
		want []int
	}{
		{nil, nil, nil},
		{[]int{}, nil, nil},
		{nil, [][]int{nil}, nil},
		{nil, [][]int{{1, 2}, {3}}, nil},
		{[]int{}, [][]int{{}, {0}}, nil},
		{[]int{4}, nil, []int{4}},
		{[]int{4}, [][]int{nil}, []int{4}},
		{[]int{4}, [][]int{{}, nil, {}}, []int{4}},
		{[]int{4}, [][]int{{4}}, nil},
		{[]int{0}, [][]int{{0}}, nil},
		{[]int{0}, [][]int{{1, -1}}, []int{0}},
		{[]int{3, 1, 2}, nil, []int{1, 2, 3}},
		{[]int{5, -1, 5, 0, -7, -1, 5}, nil, []int{-7, -1, 0, 5}},
		{[]int{5, -1, 5, 0, -7, -1, 5}, [][]int{{-1, 5}}, []int{-7, 0}},
		{[]int{5, -1, 5, 0, -7, -1, 5}, [][]int{{5, 5, 5}, {8, -7, -8}}, []int{-1, 0}},
		{[]int{1, 2, 3, 4, 5}, [][]int{{5}, {1}, {3}}, []int{2, 4}},
		{[]int{1, 2, 3, 4, 5}, [][]int{{9, 3, 1}, nil, {3, 5, 9, 3}}, []int{2, 4}},
		{[]int{5, 4, 3, 2, 1}, [][]int{{1, 2}, {3, 4}, {5}}, nil},
		{[]int{7, 7, 7}, [][]int{{6}}, []int{7}},
		{[]int{7, 7, 7}, [][]int{{7}}, nil},
		{[]int{math.MaxInt, 0, math.MinInt}, nil, []int{math.MinInt, 0, math.MaxInt}},
		{[]int{math.MaxInt, 0, math.MinInt}, [][]int{{math.MaxInt - 1}, {math.MinInt + 1}}, []int{math.MinInt, 0, math.MaxInt}},
		{[]int{math.MaxInt, 0, math.MinInt}, [][]int{{math.MaxInt}, {math.MinInt}}, []int{0}},
		// Other numbers, though their lower halves are the same.
		{[]int{1 << 32, 5}, [][]int{{0, 1<<32 + 5}}, []int{5, 1 << 32}},
	} {
		if x := reach.Gone(c.l, c.m...); !slices.Equal(x, c.want) {
			t.Errorf("%d: %v", i, x)
		}
	}
}

// P6.1: Gone of rows of numbers against the document's words.
func TestGoneRows(t *testing.T) {
	d := dice(11)
	for range 5000 {
		l := d.numbers(20, 30)
		var m [][]int
		for range d.below(5) {
			m = append(m, d.numbers(10, 30))
		}
		for _, x := range append(m, l) {
			for i := range x {
				x[i] -= 15
			}
		}
		if x, want := reach.Gone(l, m...), wantedGone(l, m...); !slices.Equal(x, want) {
			t.Fatalf("%v without %v: %v: not %v", l, m, x, want)
		}
	}
}

// R1: many numbers, and many lists of them, take no more than their time.
func TestGoneMany(t *testing.T) {
	const many = 1 << 18
	var l, half []int
	var m [][]int
	for i := range many {
		// Neither rising nor falling.
		n := i * 7919 % many
		l = append(l, n, n)
		if n%2 == 0 {
			half = append(half, n)
		} else if n != 77777 {
			m = append(m, []int{n})
		}
	}
	if x := reach.Gone(l, append(m, half)...); !slices.Equal(x, []int{77777}) {
		t.Errorf("%d are left", len(x))
	}
	if x := reach.Gone(half, m...); len(x) != many/2 || !slices.IsSorted(x) {
		t.Errorf("%d are left", len(x))
	}
}

// R2: Gone leaves its lists as they are, the room behind them, too; what it tells is new memory, also where it is all of l.
func TestGoneMemory(t *testing.T) {
	for _, m := range [][][]int{nil, {nil}, {{9, 8, 8}}, {{5, 4}, {9, 1, 2, 3, 5}}} {
		for _, l := range [][]int{{1, 2, 3}, {3, 2, 1, 2}, {5}, {}} {
			given := append(slices.Clone(l), 77, 77)
			var lists, were [][]int
			for _, x := range m {
				x = append(slices.Clone(x), 77)
				were = append(were, slices.Clone(x))
				lists = append(lists, x[:len(x)-1])
			}
			first, second := reach.Gone(given[:len(l)], lists...), reach.Gone(given[:len(l)], lists...)
			spoil(first)
			want := wantedGone(l, m...)
			if !slices.Equal(second, want) || !slices.Equal(given, append(slices.Clone(l), 77, 77)) {
				t.Errorf("%v without %v: %v, %v", l, m, second, given)
			}
			for i, x := range lists {
				if !slices.Equal(x[:len(x)+1], were[i]) {
					t.Errorf("%v without %v: changed to %v", l, m, x)
				}
			}
			spoil(given)
			if !slices.Equal(second, want) {
				t.Errorf("%v without %v: kept", l, m)
			}
		}
	}
}

// R2: lists that share memory, l itself among them.
func TestGoneShared(t *testing.T) {
	l := []int{5, 3, 5, 1, 4}
	was := slices.Clone(l)
	for _, c := range []struct {
		m    [][]int
		want []int
	}{
		{[][]int{l}, nil}, {[][]int{l[:2]}, []int{1, 4}}, {[][]int{l[3:], l[4:], l[3:]}, []int{3, 5}}, {[][]int{l[:0]}, []int{1, 3, 4, 5}},
	} {
		if x := reach.Gone(l, c.m...); !slices.Equal(x, c.want) || !slices.Equal(l, was) {
			t.Errorf("%v: %v, %v", c.m, x, l)
		}
	}
	if x := reach.Gone(l[:2], l[1:]); len(x) != 0 || !slices.Equal(l, was) {
		t.Errorf("%v, %v", x, l)
	}
}
