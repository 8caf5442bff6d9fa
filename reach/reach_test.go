package reach_test

import (
	"slices"
	"testing"

	"hermitage/api"
	"hermitage/reach"
	"hermitage/tree"
	"hermitage/vol"
)

// P6.1: the document's example, and no volumes at all.
func TestExample(t *testing.T) {
	v, e := tree.New(1)
	if e != api.OK {
		t.Fatal(e)
	}
	for _, l := range [][]api.Vol{{v}, {with(1, nil, nil)}, nil, {}} {
		for _, next := range []int{2, api.MaxNum} {
			holds(t, l, next, op{kind: "named"})
			holds(t, l, next, op{kind: "counts"})
			if len(l) > 0 {
				holds(t, l, next, op{"only", 1})
			}
		}
	}
	holds(t, nil, 1, op{kind: "named"})
	holds(t, nil, 1, op{kind: "counts"})
}

// P6.1: blocks of volumes and snapshots.
func TestSample(t *testing.T) {
	l := sample()
	holds(t, l, 8, op{kind: "named"}, 0, 1, 2, 4, 5, 7, 8, 9)
	holds(t, l, 8, op{kind: "counts"}, 1, 2, 2, 3, 2, 1, 1, 2)
	holds(t, l, 8, op{"only", 1})
	holds(t, l, 8, op{"only", 3}, 8)
	holds(t, l, 8, op{"only", 4}, 0, 4)
	holds(t, l, 8, op{"only", 7}, 1, 7)
}

// P6.1: where a block may stand: in one file, in several of a volume, in several volumes, twice in a file; and in which order.
func TestPlaces(t *testing.T) {
	for i, c := range []struct {
		l                   []api.Vol
		named, counts, only []int // only: of volume 1
	}{
		{[]api.Vol{with(1, []int{6})}, []int{6}, []int{1}, []int{6}},
		{[]api.Vol{with(1, []int{9, 6, 8, 7})}, []int{6, 7, 8, 9}, []int{1, 1, 1, 1}, []int{6, 7, 8, 9}},
		{[]api.Vol{with(1, []int{6}, []int{3, 6}, []int{6})}, []int{3, 6}, []int{1, 3}, []int{3, 6}},
		{[]api.Vol{with(1, []int{6, 6})}, []int{6}, []int{2}, []int{6}},
		{[]api.Vol{with(1, []int{6, 2, 6, 2, 6, 2, 6})}, []int{2, 6}, []int{3, 4}, []int{2, 6}},
		{[]api.Vol{with(1, []int{6}), with(2, []int{6})}, []int{6}, []int{2}, nil},
		{[]api.Vol{with(1, []int{6, 6}, []int{6}), with(2, []int{6, 6})}, []int{6}, []int{5}, nil},
		{[]api.Vol{with(1, []int{6, 5}), with(2, []int{4, 6})}, []int{4, 5, 6}, []int{1, 1, 2}, []int{5}},
		{[]api.Vol{with(1), with(2, []int{4, 6})}, []int{4, 6}, []int{1, 1}, nil},
		{[]api.Vol{with(1, []int{4, 6}), with(2)}, []int{4, 6}, []int{1, 1}, []int{4, 6}},
		// All of 1 stands elsewhere: half of it in 2, half in 3.
		{[]api.Vol{with(1, []int{1, 2}), with(2, []int{3, 2}), with(3, []int{1, 3})}, []int{1, 2, 3}, []int{2, 2, 2}, nil},
	} {
		holds(t, c.l, 4, op{kind: "named"}, c.named...)
		holds(t, c.l, 4, op{kind: "counts"}, c.counts...)
		holds(t, c.l, 4, op{"only", 1}, c.only...)
		if t.Failed() {
			t.Fatalf("%d", i)
		}
	}
}

// P6.1: a file with several names has its blocks but once.
func TestLinks(t *testing.T) {
	v := with(1, []int{6, 7})
	for _, p := range []string{"/b", "/c"} {
		var e api.Errno
		if v, e = tree.Link(v, "/a", p); e != api.OK {
			t.Fatal(e)
		}
	}
	holds(t, []api.Vol{v}, 2, op{kind: "counts"}, 1, 1)
}

// P6.1: the block 0, the greatest one that may be, and IDs of volumes at both ends.
func TestEnds(t *testing.T) {
	const top = api.MaxNum - 1
	l := []api.Vol{with(1, []int{top, 0}, []int{0}), with(top, []int{top, 1})}
	holds(t, l, api.MaxNum, op{kind: "named"}, 0, 1, top)
	holds(t, l, api.MaxNum, op{kind: "counts"}, 2, 1, 2)
	holds(t, l, api.MaxNum, op{"only", 1}, 0)
	holds(t, l, api.MaxNum, op{"only", top}, 1)
	holds(t, l[1:], api.MaxNum, op{"only", top}, 1, top)
}

// P6.1: MaxVols volumes, of as many files of as many blocks as there may be.
func TestMaxVols(t *testing.T) {
	const files, pieces = api.MaxFiles - 2, (api.MaxText + api.Sector - 1) / api.Sector
	var l []api.Vol
	var named, counts []int
	only := map[int][]int{}
	for id := 1; id <= api.MaxVols; id++ {
		var all [][]int
		for f := range files {
			// The first block of each file is one that all volumes have.
			blocks := []int{f}
			for p := 1; p < pieces; p++ {
				n := (id*100+f)*100 + pieces - p
				blocks = append(blocks, n)
				only[id] = append(only[id], n)
			}
			all = append(all, blocks)
		}
		l = append(l, with(id, all...))
		slices.Sort(only[id])
		named = append(named, only[id]...)
	}
	for f := range files {
		named = append(named, f)
		counts = append(counts, api.MaxVols)
	}
	slices.Sort(named)
	for len(counts) < len(named) {
		counts = append(counts, 1)
	}
	holds(t, l, api.MaxVols+1, op{kind: "named"}, named...)
	holds(t, l, api.MaxVols+1, op{kind: "counts"}, counts...)
	for id, want := range only {
		holds(t, l, api.MaxVols+1, op{"only", id}, want...)
	}
}

// P6.1: rows of volumes against the document's words.
func TestRows(t *testing.T) {
	d := dice(7)
	for range 3000 {
		var l []api.Vol
		next := 1
		for range d.below(api.MaxVols + 1) {
			var files [][]int
			for range d.below(5) {
				files = append(files, d.numbers(7, 20))
			}
			next += d.below(3)
			v := with(next, files...)
			if len(l) > 0 && d.below(3) == 0 {
				v = snapOf(v, next, l[0].ID)
			}
			l = append(l, v)
			next++
		}
		if vol.Check(l, next) != api.OK {
			t.Fatalf("%v may not be", l)
		}
		for _, kind := range kinds() {
			for id := range next + 1 {
				o := op{kind, id}
				if a, want := do(l, next, o), wanted(l, o); a.told() != want.told() {
					t.Fatalf("%v: %s %d: %s: not %s", l, kind, id, a.told(), want.told())
				}
			}
		}
	}
}

// P6.2: a snapshot names just what its volume did, whatever becomes of that.
func TestSnapshot(t *testing.T) {
	first := []api.Vol{with(1, []int{5, 2, 5}, []int{9}), with(2, []int{9, 3})}
	l, next, e := vol.Snap(first, 3, 1)
	if e != api.OK {
		t.Fatal(e)
	}
	was := do(first[:1], 3, op{kind: "named"})
	holds(t, l, next, op{kind: "named"}, 2, 3, 5, 9)
	holds(t, l, next, op{kind: "counts"}, 2, 1, 4, 3)
	// What both name is in neither alone.
	holds(t, l, next, op{"only", 1})
	holds(t, l, next, op{"only", 3})
	holds(t, l, next, op{"only", 2}, 3)
	if l, e = vol.Put(l, next, with(1, []int{2, 7})); e != api.OK {
		t.Fatal(e)
	}
	holds(t, l, next, op{kind: "named"}, 2, 3, 5, 7, 9)
	holds(t, l, next, op{kind: "counts"}, 2, 1, 2, 1, 2)
	holds(t, l, next, op{"only", 1}, 7)
	holds(t, l, next, op{"only", 3}, 5)
	if l, e = vol.Put(l, next, with(1)); e != api.OK {
		t.Fatal(e)
	}
	snap := l[2]
	snap.Snap, snap.From = false, 0
	holds(t, []api.Vol{l[0], snap}, next, op{kind: "named"}, was.l...)
	holds(t, []api.Vol{l[0], snap}, next, op{"only", 3}, was.l...)
	back, e := vol.Back(l, next, 3)
	if e != api.OK {
		t.Fatal(e)
	}
	holds(t, back, next, op{kind: "counts"}, 2, 1, 4, 3)
	if l, e = vol.Drop(l, next, 3); e != api.OK {
		t.Fatal(e)
	}
	holds(t, l, next, op{kind: "named"}, 3, 9)
}

// P6.2: a snapshot of whatever volume names just what the volume does, each as often; a clone of it, too.
func TestSnapshots(t *testing.T) {
	d := dice(3)
	for range 300 {
		v := with(1, d.numbers(7, 9), d.numbers(7, 9), d.numbers(7, 9))
		l, next, e := vol.Snap([]api.Vol{v}, 2, 1)
		if e != api.OK {
			t.Fatal(e)
		}
		if l, next, e = vol.Clone(l, next, 2); e != api.OK {
			t.Fatal(e)
		}
		named, e := reach.Named([]api.Vol{v}, 2)
		counts, g := reach.Counts([]api.Vol{v}, 2)
		if e != api.OK || g != api.OK {
			t.Fatal(e, g)
		}
		var three []int
		for _, n := range counts {
			three = append(three, 3*n)
		}
		holds(t, l, next, op{kind: "named"}, named...)
		holds(t, l, next, op{kind: "counts"}, three...)
		holds(t, l[2:], next, op{kind: "counts"}, counts...)
		for id := 1; id <= 3; id++ {
			holds(t, l, next, op{"only", id})
		}
	}
}
