package room_test

import (
	"fmt"
	"slices"
	"testing"

	"hermitage/api"
)

const rubbish = -5

// spoilSegs writes into segments, and into the room behind them.
func spoilSegs(l []api.Seg) {
	for i := range l[:cap(l)] {
		l[:cap(l)][i] = api.Seg{At: rubbish, Len: rubbish}
	}
}

// spoil writes into all that a call told, and into the room behind it.
func spoil(a answer) {
	for _, d := range a.l {
		spoilSegs(d.Free)
		spoilSegs(d.Late)
	}
	for i := range a.l[:cap(a.l)] {
		a.l[:cap(a.l)][i] = api.Device{ID: rubbish}
	}
	for i := range a.p[:cap(a.p)] {
		a.p[:cap(a.p)][i] = api.Ptr{Dev: rubbish, At: rubbish}
	}
}

// roomy is the same devices with room behind each list.
func roomy(l []api.Device) []api.Device {
	l = twins(l)
	for i, d := range l {
		l[i].Free = append(d.Free, api.Seg{At: 77, Len: 77}, api.Seg{At: 78, Len: 78})[:len(d.Free)]
		l[i].Late = append(d.Late, api.Seg{At: 77, Len: 77}, api.Seg{At: 78, Len: 78})[:len(d.Late)]
	}
	return append(l, api.Device{ID: 77})[:len(l)]
}

// whole is all of roomy devices as a text, the room behind their lists, too.
func whole(l []api.Device) string {
	s := fmt.Sprint(l[:len(l)+1])
	for _, d := range l {
		s += fmt.Sprint(d.Free[:len(d.Free)+2], d.Late[:len(d.Late)+2])
	}
	return s
}

// calls are some of each kind, those that succeed ahead.
func calls() (good, bad []op) {
	good = []op{
		{kind: "check"}, {kind: "count"}, {kind: "count", id: 2}, {kind: "used", id: 3}, {kind: "take"}, {kind: "take", n: 1}, {kind: "take", n: 7, id: 9}, {kind: "take", n: 12},
		{kind: "give"}, {kind: "give", p: ptrs(2, 2)}, {kind: "give", p: ptrs(40, 0, 2, 7, 40, 1)}, {kind: "commit"},
	}
	bad = []op{{kind: "used", id: 1}, {kind: "take", n: -1}, {kind: "take", n: 13}, {kind: "give", p: ptrs(2, 2, 1, 0)}, {kind: "give", p: ptrs(2, 2, 2, 9)}, {kind: "give", p: ptrs(2, 2, 2, 2)}}
	return good, bad
}

// R1, R2: what is handed in stays as it was, room behind its lists too; what is told is new memory, and the same each time.
func TestMemory(t *testing.T) {
	l := roomy(sample())
	was := whole(l)
	good, bad := calls()
	for i, o := range append(good, bad...) {
		given := slices.Clone(o.p)
		o.p = append(o.p, api.Ptr{Dev: 77, At: 77})[:len(o.p)]
		first, second := do(l, o), do(l, o)
		if (first.e == api.OK) != (i < len(good)) {
			t.Fatalf("%v: %v", o, first.e)
		}
		spoil(first)
		want := wanted(l, o).told()
		if second.told() != want || do(l, o).told() != want {
			t.Errorf("%v: %s: not %s", o, second.told(), want)
		}
		if whole(l) != was || !slices.Equal(o.p, given) || o.p[:len(o.p)+1][len(o.p)].Dev != 77 {
			t.Fatalf("%v: changed", o)
		}
		apart(t, l, o)
	}
}

// parts is all lists of segments that a call told.
func parts(a answer) (l [][]api.Seg) {
	for _, d := range a.l {
		l = append(l, d.Free, d.Late)
	}
	return l
}

// apart holds the lists that one call tells to have no memory in common: it spoils each of them, and looks at all others.
func apart(t *testing.T, l []api.Device, o op) {
	t.Helper()
	want := do(l, o)
	for i, x := range parts(want) {
		a := do(l, o)
		p := parts(a)
		spoilSegs(p[i])
		p[i] = x
		if fmt.Sprint(p, a.p) != fmt.Sprint(parts(want), want.p) {
			t.Fatalf("%v: lists share memory: %v", o, p)
		}
	}
}

// R2: devices with lists in common come back apart.
func TestCommonLists(t *testing.T) {
	one, two := []api.Seg{{At: 1, Len: 2}, {At: 5, Len: 1}}, []api.Seg{{At: 3, Len: 1}, {At: 7, Len: 1}}
	l := []api.Device{{ID: 1, Size: 9, Free: one, Late: two}, {ID: 2, Size: 9, Free: two, Late: one}, {ID: 3, Size: 9, Free: one, Late: two}}
	for _, o := range []op{{kind: "take"}, {kind: "take", n: 3}, {kind: "give"}, {kind: "give", p: ptrs(2, 0, 3, 8)}, {kind: "commit"}} {
		want := wanted(l, o).told()
		if a := do(l, o); a.told() != want {
			t.Errorf("%v: %s: not %s", o, a.told(), want)
		}
		apart(t, l, o)
	}
}

// R2: what was told stays, whatever becomes of what was handed in.
func TestNotKept(t *testing.T) {
	good, _ := calls()
	for _, o := range good {
		l := roomy(sample())
		o.p = slices.Clone(o.p)
		want := wanted(l, o).told()
		a := do(l, o)
		spoil(answer{l: l, p: o.p})
		if a.told() != want {
			t.Errorf("%s: kept: %s", o.kind, a.told())
		}
	}
}

// R2: a nil list and an empty one are one.
func TestEmptyLists(t *testing.T) {
	good, bad := calls()
	empty := sample()
	for i, d := range empty {
		empty[i].Free, empty[i].Late = append([]api.Seg{}, d.Free...), append([]api.Seg{}, d.Late...)
	}
	for _, o := range append(good, bad...) {
		if a, b := do(sample(), o), do(empty, o); a.told() != b.told() {
			t.Errorf("%v: %s", o, b.told())
		}
		if a, b := do(nil, o), do([]api.Device{}, o); a.told() != b.told() {
			t.Errorf("%v: %s", o, b.told())
		}
	}
}
