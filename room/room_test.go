package room_test

import (
	"math"
	"slices"
	"strings"
	"testing"

	"hermitage/api"
	"hermitage/room"
)

func ptrs(x ...int) (p []api.Ptr) {
	for i := 0; i+1 < len(x); i += 2 {
		p = append(p, api.Ptr{Dev: x[i], At: x[i+1]})
	}
	return p
}

// P7.2: the document's example.
func TestExample(t *testing.T) {
	l := []api.Device{{ID: 1, Size: 4, Free: []api.Seg{{At: 0, Len: 4}}}, {ID: 2, Size: 6, Free: []api.Seg{{At: 0, Len: 6}}}}
	p, x, e := room.Take(l, 1, 0)
	if !slices.Equal(p, ptrs(2, 0)) || len(x) != 2 || !slices.Equal(x[1].Free, []api.Seg{{At: 1, Len: 5}}) || e != api.OK {
		t.Errorf("%v, %v, %v", p, x, e)
	}
}

// P7.1: devices that may be, at the edges.
func TestCheck(t *testing.T) {
	full, half, none := strings.Repeat("f", api.MaxSize), strings.Repeat("fl", api.MaxSize/2), strings.Repeat(".", api.MaxSize)
	var six []disk
	for i := range api.MaxDevices {
		six = append(six, diskOf(api.MaxIDs-api.MaxDevices+1+i, half))
	}
	for i, l := range [][]api.Device{
		nil, {}, sample(), drawn(six...),
		drawn(diskOf(1, full)), drawn(diskOf(1, half)), drawn(diskOf(1, none)), drawn(diskOf(1, "f")), drawn(diskOf(1, "l")), drawn(diskOf(1, ".")),
		drawn(diskOf(api.MaxIDs, full)), drawn(diskOf(api.MaxIDs, ".")), drawn(diskOf(1, half), diskOf(2, none), diskOf(api.MaxIDs, "l")),
		drawn(diskOf(5, strings.Repeat("l", api.MaxSize))), drawn(diskOf(5, none[1:]+"f")), drawn(diskOf(5, none[1:]+"l")),
		// Late sectors right beside free ones.
		drawn(diskOf(5, "ffll")), drawn(diskOf(5, "llff")), drawn(diskOf(5, "flfl")),
	} {
		if e := room.Check(l); e != api.OK {
			t.Errorf("%d: %v", i, e)
		}
	}
}

// P7.1: Count leaves late sectors out, and one device at most.
func TestCount(t *testing.T) {
	for id, want := range map[int]int{0: 12, 2: 9, 3: 7, 9: 8, 40: 12, 1: 12, 4: 12, -2: 12, math.MinInt: 12, math.MaxInt: 12, 1<<32 + 2: 12} {
		holds(t, "count", sample(), op{kind: "count", id: id}, answer{n: want})
	}
	var six []disk
	for i := range api.MaxDevices {
		six = append(six, diskOf(i+1, strings.Repeat("f", api.MaxSize)))
	}
	holds(t, "all there can be", drawn(six...), op{kind: "count"}, answer{n: api.MaxDevices * api.MaxSize})
	holds(t, "all but one", drawn(six...), op{kind: "count", id: 6}, answer{n: (api.MaxDevices - 1) * api.MaxSize})
	for _, id := range []int{0, 1, -1} {
		holds(t, "no devices", nil, op{kind: "count", id: id}, answer{})
	}
}

// P7.1: Used is what is neither free nor late.
func TestUsed(t *testing.T) {
	for id, want := range map[int]int{2: 4, 3: 1, 9: 0, 40: 3} {
		holds(t, "used", sample(), op{kind: "used", id: id}, answer{n: want})
	}
	for letters, want := range map[string]int{"f": 0, "l": 0, ".": 1, "fl": 0, "fl.fl.": 2, strings.Repeat(".", api.MaxSize): api.MaxSize, strings.Repeat(".f", api.MaxSize/2): api.MaxSize / 2} {
		for _, id := range []int{1, api.MaxIDs} {
			holds(t, letters, drawn(diskOf(id, letters)), op{kind: "used", id: id}, answer{n: want})
		}
	}
}

// P7.2: the device with the most free sectors as they are then, of as many the least ID; its least sector.
func TestTake(t *testing.T) {
	l := drawn(diskOf(2, "ff.l.f.."), diskOf(3, "...lff"), diskOf(7, "l.f.fff"), diskOf(9, "fff"))
	holds(t, "one of each", l, op{kind: "take", n: 9}, answer{
		p: ptrs(7, 2, 2, 0, 7, 4, 9, 0, 2, 1, 3, 4, 7, 5, 9, 1, 2, 5),
		l: drawn(diskOf(2, "...l...."), diskOf(3, "...l.f"), diskOf(7, "l.....f"), diskOf(9, "..f")),
	})
	holds(t, "not the emptiest", l, op{kind: "take", n: 3, id: 7}, answer{
		p: ptrs(2, 0, 9, 0, 2, 1),
		l: drawn(diskOf(2, "...l.f.."), diskOf(3, "...lff"), diskOf(7, "l.f.fff"), diskOf(9, ".ff")),
	})
	holds(t, "no late one", drawn(diskOf(4, "lllll"), diskOf(5, "l.f")), op{kind: "take", n: 1}, answer{p: ptrs(5, 2), l: drawn(diskOf(4, "lllll"), diskOf(5, "l.."))})
	alike := drawn(diskOf(4, ".f"), diskOf(5, "f"), diskOf(6, "...f"))
	holds(t, "as many each", alike, op{kind: "take", n: 3}, answer{p: ptrs(4, 1, 5, 0, 6, 3), l: drawn(diskOf(4, ".."), diskOf(5, "."), diskOf(6, "...."))})
	holds(t, "as many each, not the first", alike, op{kind: "take", n: 2, id: 4}, answer{p: ptrs(5, 0, 6, 3), l: drawn(diskOf(4, ".f"), diskOf(5, "."), diskOf(6, "...."))})
	holds(t, "the larger one is the fuller one", drawn(diskOf(1, strings.Repeat(".", 60)+"ff"), diskOf(2, "fff")), op{kind: "take", n: 1}, answer{p: ptrs(2, 0), l: drawn(diskOf(1, strings.Repeat(".", 60)+"ff"), diskOf(2, ".ff"))})
}

// P7.2: no more than are free, and none of the device that is not to be.
func TestTakeEdges(t *testing.T) {
	for i, c := range []struct {
		l    []api.Device
		id   int
		most int
	}{
		{nil, 0, 0}, {nil, 1, 0}, {sample(), 0, 12}, {sample(), 9, 8}, {sample(), 40, 12}, {sample(), 77, 12}, {sample(), -3, 12},
		{drawn(diskOf(1, "f")), 0, 1}, {drawn(diskOf(1, "f")), 1, 0}, {drawn(diskOf(40, "l")), 0, 0}, {drawn(diskOf(40, ".")), 0, 0},
		{drawn(diskOf(40, strings.Repeat("f", api.MaxSize))), 0, api.MaxSize},
	} {
		if a := do(c.l, op{kind: "take", id: c.id}); a.told() != (answer{l: c.l}).told() {
			t.Errorf("%d: %s", i, a.told())
		}
		o := op{kind: "take", id: c.id, n: c.most}
		if a := do(c.l, o); a.e != api.OK || len(a.p) != c.most || a.told() != wanted(c.l, o).told() {
			t.Errorf("%d: %s", i, a.told())
		}
		for _, n := range []int{c.most + 1, api.MaxDevices * api.MaxSize} {
			holds(t, "too many", c.l, op{kind: "take", id: c.id, n: n}, answer{e: api.ErrFull})
		}
	}
}

// P7.2: all sectors there can be.
func TestTakeAll(t *testing.T) {
	var l, empty []disk
	for i := range api.MaxDevices {
		l = append(l, diskOf(7*i+1, strings.Repeat("f", api.MaxSize)))
		empty = append(empty, diskOf(7*i+1, strings.Repeat(".", api.MaxSize)))
	}
	var p []api.Ptr
	for at := range api.MaxSize {
		for _, d := range l {
			p = append(p, api.Ptr{Dev: d.id, At: at})
		}
	}
	holds(t, "all", drawn(l...), op{kind: "take", n: api.MaxDevices * api.MaxSize}, answer{p: p, l: drawn(empty...)})
	holds(t, "all but one device's", drawn(l...), op{kind: "take", n: api.MaxDevices * api.MaxSize, id: 1}, answer{e: api.ErrFull})
}

// P7.2: what is given is late, beside what was, in whatever order.
func TestGive(t *testing.T) {
	l := drawn(diskOf(2, "ff.l.f.."), diskOf(3, "llfff.ff"), diskOf(40, "..."))
	for _, c := range []struct {
		what string
		p    []api.Ptr
		want []api.Device
	}{
		{"none", nil, l},
		{"none", []api.Ptr{}, l},
		{"one", ptrs(40, 1), drawn(diskOf(2, "ff.l.f.."), diskOf(3, "llfff.ff"), diskOf(40, ".l."))},
		{"the first", ptrs(40, 0), drawn(diskOf(2, "ff.l.f.."), diskOf(3, "llfff.ff"), diskOf(40, "l.."))},
		{"the last", ptrs(40, 2), drawn(diskOf(2, "ff.l.f.."), diskOf(3, "llfff.ff"), diskOf(40, "..l"))},
		{"around a late one", ptrs(2, 4, 2, 2), drawn(diskOf(2, "fflllf.."), diskOf(3, "llfff.ff"), diskOf(40, "..."))},
		{"all", ptrs(40, 2, 2, 7, 3, 5, 2, 4, 40, 0, 2, 2, 2, 6, 40, 1), drawn(diskOf(2, "fflllfll"), diskOf(3, "llffflff"), diskOf(40, "lll"))},
	} {
		holds(t, c.what, l, op{kind: "give", p: c.p}, answer{l: c.want})
	}
	holds(t, "the only sector", drawn(diskOf(1, ".")), op{kind: "give", p: ptrs(1, 0)}, answer{l: drawn(diskOf(1, "l"))})
	holds(t, "the last there can be", drawn(diskOf(40, strings.Repeat("f", 63)+".")), op{kind: "give", p: ptrs(40, 63)}, answer{l: drawn(diskOf(40, strings.Repeat("f", 63)+"l"))})
	holds(t, "no devices, no place", nil, op{kind: "give"}, answer{})
}

// P7.2: all that is late, of each device, is free; what is used stays so.
func TestCommit(t *testing.T) {
	for _, c := range []struct {
		what       string
		from, want []api.Device
	}{
		{"no devices", nil, nil},
		{"nothing is late", drawn(diskOf(1, "ff.f"), diskOf(2, "."), diskOf(3, "f")), drawn(diskOf(1, "ff.f"), diskOf(2, "."), diskOf(3, "f"))},
		{"on each", drawn(diskOf(1, "l"), diskOf(2, ".l."), diskOf(3, "fl"), diskOf(40, "lf.l")), drawn(diskOf(1, "f"), diskOf(2, ".f."), diskOf(3, "ff"), diskOf(40, "ff.f"))},
		{"on one", drawn(diskOf(1, "f.f"), diskOf(2, "flflf")), drawn(diskOf(1, "f.f"), diskOf(2, "fffff"))},
		{"all of it", drawn(diskOf(9, strings.Repeat("l", api.MaxSize))), drawn(diskOf(9, strings.Repeat("f", api.MaxSize)))},
		{"every other one", drawn(diskOf(9, strings.Repeat("fl", api.MaxSize/2))), drawn(diskOf(9, strings.Repeat("f", api.MaxSize)))},
		{"the sample", sample(), drawn(diskOf(2, "ff.f.f.."), diskOf(3, "fffff.ff"), diskOf(9, "ffff"), diskOf(40, "..."))},
	} {
		holds(t, c.what, c.from, op{kind: "commit"}, answer{l: c.want})
		holds(t, c.what+", twice", c.want, op{kind: "commit"}, answer{l: c.want})
	}
}

// P7.3: what was taken, given, and committed is free: all is as it would be with the commit alone.
func TestRound(t *testing.T) {
	d := dice(5)
	for range 400 {
		l := drawn(d.devices()...)
		not := pick(&d, 0, 1+d.below(api.MaxIDs))
		most, _ := room.Count(l, not)
		p, x, e := room.Take(l, d.below(most+1), not)
		if e != api.OK {
			t.Fatal(e)
		}
		for i := range p {
			k := d.below(i + 1)
			p[i], p[k] = p[k], p[i]
		}
		given := do(x, op{kind: "give", p: p})
		a, want := do(given.l, op{kind: "commit"}), do(l, op{kind: "commit"})
		if given.e != api.OK || a.e != api.OK || a.told() != want.told() {
			t.Fatalf("%v of %v: %s: not %s", p, l, a.told(), want.told())
		}
		if len(p) > 0 && do(x, op{kind: "count", id: not}).n != most-len(p) {
			t.Fatalf("%v of %v: free yet", p, l)
		}
	}
}

// P7.1, P7.2: rows of calls against the document's words, each on what the one ahead left.
func TestRows(t *testing.T) {
	d := dice(3)
	for range 300 {
		l := drawn(d.devices()...)
		for range 20 {
			o := d.op(l)
			a, want := do(l, o), wanted(l, o)
			if a.told() != want.told() {
				t.Fatalf("%v of %v: %s: not %s", o, l, a.told(), want.told())
			}
			if a.e == api.OK && (o.kind == "take" || o.kind == "give" || o.kind == "commit") {
				l = a.l
			}
		}
	}
}

// op is one of any kind, mostly one that does not err.
func (d *dice) op(l []api.Device) op {
	o := op{kind: pick(d, kinds()...), id: d.below(api.MaxIDs + 1)}
	if len(l) > 0 && d.below(2) == 0 {
		o.id = l[d.below(len(l))].ID
	}
	all, _ := disks(l)
	o.n = d.below(freeOf(all, o.id) + 2)
	var open []api.Ptr
	for _, x := range all {
		for n, what := range x.is {
			if what == used || d.below(100) == 0 {
				open = append(open, api.Ptr{Dev: x.id, At: n})
			}
		}
	}
	for range min(len(open), d.below(6)) {
		i := d.below(len(open))
		o.p = append(o.p, open[i])
		if d.below(10) > 0 {
			open = slices.Delete(open, i, i+1)
		}
	}
	return o
}
