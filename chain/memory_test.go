package chain_test

import (
	"fmt"
	"slices"
	"testing"

	"hermitage/api"
)

const rubbish = -5

// fill writes into a list, and into the room behind it.
func fill[T any](l []T, x T) {
	for i := range l[:cap(l)] {
		l[:cap(l)][i] = x
	}
}

func spoilSegs(l []api.Seg) {
	fill(l, api.Seg{At: rubbish, Len: rubbish})
}

func spoilEntries(l []api.Entry) {
	fill(l, api.Entry{From: rubbish, Len: rubbish, Dev: rubbish, To: rubbish, Stale: rubbish})
}

// spoilers write each into one of a pool's lists; those of the greater lists come last.
func spoilers(p api.Pool) (l []func()) {
	for _, d := range p.Devices {
		l = append(l, func() { spoilSegs(d.Free) }, func() { spoilSegs(d.Late) })
	}
	for _, t := range p.Tables {
		l = append(l, func() { spoilEntries(t.List) })
	}
	return append(l, func() { spoilEntries(p.Job.Table.List) }, func() { fill(p.Devices, api.Device{ID: rubbish}) }, func() { fill(p.Tables, api.Table{Dev: rubbish}) })
}

// spoil writes into all that a call told, and into the room behind it.
func spoil(a answer) {
	fill(a.w, rubbish)
	for _, f := range spoilers(a.p) {
		f()
	}
}

// roomier is the same list with room behind it, in which there is something.
func roomier[T any](l []T, extra T) []T {
	return slices.Concat(l, []T{extra, extra})[:len(l)]
}

// roomy is the same pool with room behind each list.
func roomy(p api.Pool) api.Pool {
	p = twin(p)
	for i, d := range p.Devices {
		p.Devices[i].Free, p.Devices[i].Late = roomier(d.Free, api.Seg{At: 77, Len: 77}), roomier(d.Late, api.Seg{At: 77, Len: 77})
	}
	for i, t := range p.Tables {
		p.Tables[i].List = roomier(t.List, api.Entry{From: 77})
	}
	p.Job.Table.List = roomier(p.Job.Table.List, api.Entry{From: 77})
	p.Devices, p.Tables = roomier(p.Devices, api.Device{ID: 77}), roomier(p.Tables, api.Table{Dev: 77})
	return p
}

// whole is all of a roomy pool as a text, the room behind its lists, too.
func whole(p api.Pool) string {
	s := fmt.Sprint(p, p.Devices[:len(p.Devices)+2], p.Tables[:len(p.Tables)+2], p.Job.Table.List[:len(p.Job.Table.List)+2])
	for _, d := range p.Devices {
		s += fmt.Sprint(d.Free[:len(d.Free)+2], d.Late[:len(d.Late)+2])
	}
	for _, t := range p.Tables {
		s += fmt.Sprint(t.List[:len(t.List)+2])
	}
	return s
}

// calls are some of each kind, those that succeed ahead.
func calls() (good, bad []op) {
	good = []op{
		{"check", nil}, {"old", ptrs(2, 0)}, {"old", ptrs(1, 0)}, {"now", ptrs(2, 0)}, {"now", ptrs(1, 0)}, {"way", ptrs(2, 0)}, {"way", ptrs(1, 3)}, {"way", ptrs(1, 0)},
		{"lose", nil}, {"lose", ptrs(2, 0)}, {"lose", ptrs(1, 0)}, {"lose", ptrs(3, 0, 2, 0, 8, 5, 1, 3)},
	}
	bad = []op{{"old", ptrs(4, 0)}, {"now", ptrs(3, 2)}, {"way", ptrs(8, 11)}, {"lose", ptrs(1, 0, 3, 2)}, {"lose", ptrs(1, 0, 8, 15)}, {"lose", ptrs(1, 0, 8, 2)}, {"lose", ptrs(1, 3, 1, 3)}}
	return good, bad
}

// R1, R2: what is handed in stays as it was, room behind its lists too; what is told is new memory, and the same each time.
func TestMemory(t *testing.T) {
	p := roomy(sample())
	was := whole(p)
	good, bad := calls()
	for i, o := range append(good, bad...) {
		given := slices.Clone(o.q)
		o.q = roomier(o.q, at(77, 77))
		first, second := do(p, o), do(p, o)
		if (first.e == api.OK) != (i < len(good)) {
			t.Fatalf("%v: %v", o, first.e)
		}
		spoil(first)
		want := wanted(p, o).told()
		if second.told() != want || do(p, o).told() != want {
			t.Errorf("%v: %s: not %s", o, second.told(), want)
		}
		if whole(p) != was || !slices.Equal(o.q, given) || o.q[:len(o.q)+1][len(o.q)] != at(77, 77) {
			t.Fatalf("%v: changed", o)
		}
		apart(t, p, o)
	}
}

// apart holds the lists that one call tells to have no memory in common: it spoils each of them, and looks whether just that one is another.
func apart(t *testing.T, p api.Pool, o op) {
	t.Helper()
	lists := func(a answer) (l []string) {
		for _, d := range a.p.Devices {
			l = append(l, fmt.Sprint(d.Free), fmt.Sprint(d.Late))
		}
		for _, x := range a.p.Tables {
			l = append(l, fmt.Sprint(x.List))
		}
		return append(l, fmt.Sprint(a.p.Job.Table.List))
	}
	want := lists(do(p, o))
	for i := range want {
		a := do(p, o)
		spoilers(a.p)[i]()
		left := lists(a)
		left[i] = want[i]
		if !slices.Equal(left, want) {
			t.Fatalf("%v: lists share memory: %v", o, left)
		}
	}
}

// R2: a pool whose lists are one and the same comes back with lists apart.
func TestCommonLists(t *testing.T) {
	l := tableOf(1, 9, 0, 2, 2, 0, 0, 2, 1, 9, 3, 0).List
	one, two := []api.Seg{{At: 5, Len: 1}, {At: 7, Len: 1}}, []api.Seg{{At: 6, Len: 1}}
	p := api.Pool{
		Devices: []api.Device{{ID: 2, Size: 9, Free: one, Late: two}, {ID: 3, Size: 9, Free: one, Late: two}, {ID: 9, Size: 9, Free: two, Late: one}},
		Tables:  []api.Table{{Dev: 1, Size: 9, List: l}, {Dev: 4, Size: 9, List: l}},
		Job:     api.Job{Dev: 3, At: 3, Table: api.Table{Dev: 3, Size: 9, List: l}},
		Next:    10,
	}
	was := (answer{p: p}).told()
	for _, o := range []op{{"lose", nil}, {"lose", ptrs(3, 1)}, {"lose", ptrs(1, 0, 4, 1, 3, 2)}} {
		holds(t, "common", p, o, wanted(p, o))
		apart(t, p, o)
		if (answer{p: p}).told() != was {
			t.Fatalf("%v: changed: %v", o, p)
		}
	}
}

// R2: what was told stays, whatever becomes of what was handed in.
func TestNotKept(t *testing.T) {
	good, _ := calls()
	for _, o := range good {
		p := roomy(sample())
		o.q = slices.Clone(o.q)
		want := wanted(p, o).told()
		a := do(p, o)
		spoil(answer{p: p})
		fill(o.q, at(rubbish, rubbish))
		if a.told() != want {
			t.Errorf("%s: kept: %s", o.kind, a.told())
		}
	}
}

// R2: a nil list and an empty one are one.
func TestEmptyLists(t *testing.T) {
	for _, from := range []api.Pool{plain(), {Devices: []api.Device{diskOf(2, ".."), diskOf(3, "..")}, Tables: []api.Table{tableOf(1, 4)}, Job: jobOf(3, 2, 1), Next: 4}} {
		p := twin(from)
		for i, d := range p.Devices {
			p.Devices[i].Free, p.Devices[i].Late = append([]api.Seg{}, d.Free...), append([]api.Seg{}, d.Late...)
		}
		p.Tables = append([]api.Table{}, p.Tables...)
		for i := range p.Tables {
			p.Tables[i].List = []api.Entry{}
		}
		p.Job.Table.List = []api.Entry{}
		for _, o := range []op{{"check", nil}, {"old", ptrs(3, 1)}, {"now", ptrs(3, 0)}, {"way", ptrs(2, 0)}, {"way", ptrs(4, 1)}, {"lose", nil}, {"lose", ptrs(4, 1)}, {"lose", ptrs(2, 0)}} {
			if a, b := do(from, o), do(p, o); a.told() != b.told() || a.told() != wanted(from, o).told() {
				t.Errorf("%v: %s, %s", o, a.told(), b.told())
			}
		}
		if a, b := do(p, op{"lose", nil}), do(p, op{"lose", []api.Ptr{}}); a.told() != b.told() {
			t.Errorf("%s, %s", a.told(), b.told())
		}
	}
}
