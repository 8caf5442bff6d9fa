package table_test

import (
	"math"
	"testing"

	"hermitage/api"
	"hermitage/table"
)

// P8.2: the document's example.
func TestExample(t *testing.T) {
	x, e := table.Add(api.Table{Dev: 3, Size: 4}, 0, api.Ptr{Dev: 1, At: 5})
	if e != api.OK {
		t.Fatal(e)
	}
	x, e = table.Add(x, 1, api.Ptr{Dev: 1, At: 6})
	if e != api.OK || len(x.List) != 1 || x.List[0] != (api.Entry{From: 0, Len: 2, Dev: 1, To: 5}) || x.Dev != 3 || x.Size != 4 {
		t.Errorf("%v, %v", x, e)
	}
}

// P8.1: tables that may be, at the edges.
func TestCheck(t *testing.T) {
	single := tableOf(1, api.MaxSize)
	for n := range api.MaxSize {
		single.List = append(single.List, api.Entry{From: n, Len: 1, Dev: 2 + n%39, To: api.MaxSize - 1 - n, Stale: n % 2})
	}
	for i, x := range []api.Table{
		sample(), single, tableOf(1, 1), tableOf(api.MaxIDs, api.MaxSize),
		tableOf(1, 1, 0, 1, api.MaxIDs, 0, 0), tableOf(api.MaxIDs, 1, 0, 1, 1, 0, 1), tableOf(1, 1, 0, 1, 2, api.MaxSize-1, 1),
		// All there can be in one entry.
		tableOf(2, api.MaxSize, 0, api.MaxSize, 1, 0, 0), tableOf(2, api.MaxSize, 0, api.MaxSize, 3, 0, api.MaxSize),
		// To and Len together just MaxSize; the entry ends at Size.
		tableOf(2, 10, 4, 6, 1, api.MaxSize-6, 0), tableOf(2, 10, 9, 1, 1, api.MaxSize-1, 0),
		// Side by side, and on one place, which the words do not forbid.
		tableOf(2, 10, 0, 3, 1, 5, 0, 3, 3, 1, 8, 0), tableOf(2, 10, 0, 3, 1, 5, 0, 3, 3, 1, 5, 3), tableOf(2, 10, 1, 1, 1, 1, 0, 8, 1, 1, 0, 0),
	} {
		if e := table.Check(x); e != api.OK {
			t.Errorf("%d: %v", i, e)
		}
		if _, mayBe := chartOf(x); !mayBe {
			t.Errorf("%d: the tests' own words refuse it", i)
		}
	}
}

// P8.1: Look, at each entry's ends, in gaps, and where no table has a sector.
func TestLook(t *testing.T) {
	for n, p := range map[int]api.Ptr{
		1: {Dev: 2, At: 10}, 2: {Dev: 2, At: 11}, 3: {Dev: 2, At: 12}, 4: {Dev: 2, At: 13}, 5: {Dev: 2, At: 14}, 6: {Dev: 1, At: 63},
		10: {Dev: 40, At: 60}, 13: {Dev: 40, At: 63}, 17: {Dev: 2, At: 0}, 18: {Dev: 2, At: 1}, 19: {Dev: 2, At: 2},
	} {
		holds(t, "there", sample(), op{kind: "look", n: n}, answer{p: p})
	}
	for _, n := range []int{0, 7, 8, 9, 14, 16, 20, 21, 63, 64, -1, -2, math.MinInt, math.MaxInt, 1<<32 + 1, -1<<32 + 1} {
		holds(t, "none", sample(), op{kind: "look", n: n}, answer{e: api.ErrNone})
	}
	for _, n := range []int{0, 1, -1, 19, math.MaxInt} {
		holds(t, "no entries", tableOf(7, 20), op{kind: "look", n: n}, answer{e: api.ErrNone})
	}
	holds(t, "all in one, the first", tableOf(1, 64, 0, 64, 2, 0, 64), op{kind: "look", n: 0}, answer{p: api.Ptr{Dev: 2}})
	holds(t, "all in one, the last", tableOf(1, 64, 0, 64, 2, 0, 64), op{kind: "look", n: 63}, answer{p: api.Ptr{Dev: 2, At: 63}})
}

// P8.1: Range, over all entries, cut at either end, and from where there are none.
func TestRange(t *testing.T) {
	all := entries(1, 3, 2, 10, 0, 4, 2, 2, 13, 0, 6, 1, 1, 63, 0, 10, 4, 40, 60, 0, 17, 3, 2, 0, 0)
	for _, c := range []struct {
		n, many int
		want    []api.Entry
	}{
		{0, 20, all}, {0, 64, all}, {1, 19, all}, {-44, 64, all},
		{0, 19, append(append([]api.Entry{}, all[:4]...), entries(17, 2, 2, 0, 0)...)}, {2, 64, append(entries(2, 2, 2, 11, 0), all[1:]...)},
		{0, 0, nil}, {1, 0, nil}, {5, 0, nil}, {-1, 0, nil}, {99, 0, nil},
		{0, 1, nil}, {0, 2, entries(1, 1, 2, 10, 0)}, {2, 1, entries(2, 1, 2, 11, 0)}, {3, 2, entries(3, 1, 2, 12, 0, 4, 1, 2, 13, 0)}, {5, 6, entries(5, 1, 2, 14, 0, 6, 1, 1, 63, 0, 10, 1, 40, 60, 0)},
		{7, 3, nil}, {7, 4, entries(10, 1, 40, 60, 0)}, {11, 2, entries(11, 2, 40, 61, 0)}, {13, 4, entries(13, 1, 40, 63, 0)}, {13, 5, entries(13, 1, 40, 63, 0, 17, 1, 2, 0, 0)}, {14, 3, nil}, {19, 64, entries(19, 1, 2, 2, 0)}, {20, 64, nil}, {21, 64, nil},
		{-1, 2, nil}, {-1, 3, entries(1, 1, 2, 10, 0)}, {-62, 64, entries(1, 1, 2, 10, 0)}, {-63, 64, nil}, {-64, 64, nil}, {-65, 64, nil},
		{math.MinInt, 64, nil}, {math.MinInt, 0, nil}, {math.MaxInt, 64, nil}, {math.MaxInt - 63, 64, nil}, {math.MaxInt - 62, 64, nil}, {math.MaxInt, 1, nil}, {1<<32 + 1, 3, nil}, {-1<<32 + 1, 3, nil},
	} {
		holds(t, "range", sample(), op{kind: "range", n: c.n, many: c.many}, answer{l: c.want})
		holds(t, "no entries", tableOf(7, 20), op{kind: "range", n: c.n, many: c.many}, answer{})
	}
}

// P8.2: Add makes the last entry longer, or one of its own.
func TestAdd(t *testing.T) {
	was := []int{0, 2, 1, 5, 1, 4, 3, 2, 20, 2}
	x := tableOf(9, 20, was...)
	for _, c := range []struct {
		what string
		n    int
		p    api.Ptr
		last []int
	}{
		{"right behind, here and there", 7, api.Ptr{Dev: 2, At: 23}, nil},
		{"another device", 7, api.Ptr{Dev: 3, At: 23}, []int{7, 1, 3, 23, 0}},
		{"the first entry's device and place", 7, api.Ptr{Dev: 1, At: 7}, []int{7, 1, 1, 7, 0}},
		{"a place further on", 7, api.Ptr{Dev: 2, At: 24}, []int{7, 1, 2, 24, 0}},
		{"the same place as the last one", 7, api.Ptr{Dev: 2, At: 22}, []int{7, 1, 2, 22, 0}},
		{"a place ahead", 7, api.Ptr{Dev: 2, At: 19}, []int{7, 1, 2, 19, 0}},
		{"a gap", 8, api.Ptr{Dev: 2, At: 23}, []int{8, 1, 2, 23, 0}},
		{"a gap here and there", 8, api.Ptr{Dev: 2, At: 24}, []int{8, 1, 2, 24, 0}},
		{"Size - 1", 19, api.Ptr{Dev: 2, At: 23}, []int{19, 1, 2, 23, 0}},
		{"the greatest place", 7, api.Ptr{Dev: api.MaxIDs, At: api.MaxSize - 1}, []int{7, 1, api.MaxIDs, api.MaxSize - 1, 0}},
		{"the least place", 7, api.Ptr{Dev: 1, At: 0}, []int{7, 1, 1, 0, 0}},
	} {
		want := tableOf(9, 20, append(append([]int{}, was...), c.last...)...)
		if c.last == nil {
			want.List[1].Len++
		}
		holds(t, c.what, x, op{kind: "add", n: c.n, p: c.p}, answer{t: want})
	}
	holds(t, "no entries", tableOf(9, 20), op{kind: "add", n: 0, p: api.Ptr{Dev: 2}}, answer{t: tableOf(9, 20, 0, 1, 2, 0, 0)})
	holds(t, "no entries, Size - 1", tableOf(9, 20), op{kind: "add", n: 19, p: api.Ptr{Dev: 2, At: 63}}, answer{t: tableOf(9, 20, 19, 1, 2, 63, 0)})
	holds(t, "the only sector", tableOf(9, 1), op{kind: "add", n: 0, p: api.Ptr{Dev: 1}}, answer{t: tableOf(9, 1, 0, 1, 1, 0, 0)})
	holds(t, "all there can be", tableOf(9, 64, 0, 63, 1, 0, 63), op{kind: "add", n: 63, p: api.Ptr{Dev: 1, At: 63}}, answer{t: tableOf(9, 64, 0, 64, 1, 0, 63)})
	// The two ahead of the new one stay two, although they lie in a row.
	holds(t, "side by side", tableOf(9, 9, 0, 1, 1, 0, 0, 1, 1, 1, 1, 0), op{kind: "add", n: 2, p: api.Ptr{Dev: 1, At: 2}}, answer{t: tableOf(9, 9, 0, 1, 1, 0, 0, 1, 2, 1, 1, 0)})
}

// P8.2: Lose of any of an entry's sectors, until all are stale; the others stay as they are.
func TestLose(t *testing.T) {
	x := sample()
	for i, n := range []int{10, 10, 13, 12} {
		x.List[3].Stale = i
		want := twin(x)
		want.List[3].Stale = i + 1
		holds(t, "lose", x, op{kind: "lose", n: n}, answer{t: want})
	}
	x.List[3].Stale = 4
	for _, n := range []int{10, 11, 12, 13, 6} {
		holds(t, "all are stale", x, op{kind: "lose", n: n}, answer{e: api.ErrState})
	}
	for n, i := range map[int]int{1: 0, 3: 0, 4: 1, 5: 1, 17: 4, 19: 4} {
		want := sample()
		want.List[i].Stale++
		holds(t, "one more", sample(), op{kind: "lose", n: n}, answer{t: want})
	}
	for _, n := range []int{0, 7, 9, 14, 16, 20, 21, 64, -1, math.MinInt, math.MaxInt, 1<<32 + 1} {
		holds(t, "none", sample(), op{kind: "lose", n: n}, answer{e: api.ErrNone})
		holds(t, "no entries", tableOf(7, 20), op{kind: "lose", n: n}, answer{e: api.ErrNone})
	}
}

// P8.2: Tidy leaves out what is stale altogether, and nothing else; Live counts the rest.
func TestTidyAndLive(t *testing.T) {
	for _, c := range []struct {
		what         string
		x, tidy      api.Table
		live, tidied int
	}{
		{"some", sample(), tableOf(7, 20, 1, 3, 2, 10, 1, 4, 2, 2, 13, 0, 17, 3, 2, 0, 2), 5, 5},
		{"no entries", tableOf(7, 20), tableOf(7, 20), 0, 0},
		{"none is stale", tableOf(7, 20, 0, 1, 1, 0, 0, 5, 4, 2, 0, 3), tableOf(7, 20, 0, 1, 1, 0, 0, 5, 4, 2, 0, 3), 2, 2},
		{"all are stale", tableOf(7, 20, 0, 1, 1, 0, 1, 5, 4, 2, 0, 4), tableOf(7, 20), 0, 0},
		{"the only one", tableOf(7, 64, 0, 64, 1, 0, 64), tableOf(7, 64), 0, 0},
		{"the first", tableOf(7, 20, 0, 1, 1, 0, 1, 1, 1, 1, 1, 0), tableOf(7, 20, 1, 1, 1, 1, 0), 1, 1},
		{"the last", tableOf(7, 20, 0, 1, 1, 0, 0, 1, 1, 1, 1, 1), tableOf(7, 20, 0, 1, 1, 0, 0), 1, 1},
		// What is left lies side by side with a stale one, and stays as it is.
		{"one between two", tableOf(7, 20, 0, 1, 1, 0, 0, 1, 1, 1, 9, 1, 2, 1, 1, 1, 0), tableOf(7, 20, 0, 1, 1, 0, 0, 2, 1, 1, 1, 0), 2, 2},
		{"all there can be", tableOf(7, 64, 0, 64, 1, 0, 0), tableOf(7, 64, 0, 64, 1, 0, 0), 64, 64},
	} {
		holds(t, c.what, c.x, op{kind: "tidy"}, answer{t: c.tidy})
		holds(t, c.what, c.x, op{kind: "live"}, answer{n: c.live})
		holds(t, c.what+", tidied", c.tidy, op{kind: "live"}, answer{n: c.tidied})
		holds(t, c.what+", tidied twice", c.tidy, op{kind: "tidy"}, answer{t: c.tidy})
	}
}

// P8.1, P8.2: whatever table there is, and whatever is asked of it: what the document says.
func TestAll(t *testing.T) {
	d := dice(8)
	count := map[string]int{}
	for range 60000 {
		c := d.chart()
		x := c.table()
		if again, mayBe := chartOf(x); !mayBe || (answer{t: again.table()}).told() != (answer{t: x}).told() {
			t.Fatalf("a chart that is none: %v", x)
		}
		o := d.op(c)
		want := wanted(x, o)
		holds(t, "thrown", x, o, want)
		if t.Failed() {
			return
		}
		if want.e == api.OK {
			count[o.kind]++
		} else {
			count[o.kind+" errs"]++
		}
	}
	for _, kind := range []string{"look", "look errs", "range", "range errs", "add", "add errs", "lose", "lose errs", "tidy", "live"} {
		if count[kind] < 200 {
			t.Errorf("%s: only %d", kind, count[kind])
		}
	}
}

// P8.3: Look of what was added is it; what was there ahead stays where it was.
func TestAddedIsThere(t *testing.T) {
	d := dice(83)
	for range 2000 {
		x := api.Table{Dev: 5, Size: pick(&d, 1, 3, 20, api.MaxSize)}
		lies := map[int]api.Ptr{}
		for n := d.below(2); n < x.Size; n += 1 + d.below(8)/7 {
			p := d.place(x.Dev)
			if q, is := lies[n-1]; is && q.At < api.MaxSize-1 && d.below(4) > 0 {
				p = api.Ptr{Dev: q.Dev, At: q.At + 1}
			}
			y, e := table.Add(x, n, p)
			if e != api.OK {
				t.Fatalf("%v, %d, %v: %v", x, n, p, e)
			}
			x, lies[n] = y, p
		}
		for n := range x.Size {
			p, e := table.Look(x, n)
			want, is := lies[n]
			if p != want || is != (e == api.OK) || !is && e != api.ErrNone {
				t.Fatalf("%v, %d: %v, %v: not %v", x, n, p, e, want)
			}
		}
		if n, e := table.Live(x); n != len(lies) || e != api.OK {
			t.Fatalf("%v: %d, %v: not %d", x, n, e, len(lies))
		}
	}
}

// P8.2: a table all of whose sectors are lost is empty when it is tidied.
func TestLostIsGone(t *testing.T) {
	d := dice(29)
	for range 500 {
		c := d.chart()
		x := c.table()
		for n := range x.Size {
			// Bounded: a Lose that never errs is to fail, not to go on for ever.
			for range api.MaxSize + 1 {
				y, e := table.Lose(x, n)
				if e != api.OK {
					break
				}
				x = y
			}
		}
		if n, e := table.Live(x); n != 0 || e != api.OK {
			t.Fatalf("%v: %d, %v", x, n, e)
		}
		holds(t, "all lost", x, op{kind: "tidy"}, answer{t: api.Table{Dev: x.Dev, Size: x.Size}})
	}
}
