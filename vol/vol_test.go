package vol_test

import (
	"testing"

	"hermitage/api"
	"hermitage/tree"
	"hermitage/vol"
)

// sample is two volumes, two snapshots of the first one; with 8 as the next ID.
func sample(t *testing.T) []api.Vol {
	a, b := with(t, 1, "a", "b"), with(t, 4, "c")
	return []api.Vol{a, snapOf(with(t, 2, "a"), 3, 1), b, snapOf(with(t, 3, "x", "y", "z"), 7, 1)}
}

// P5.2: the document's example.
func TestExample(t *testing.T) {
	v, _ := tree.New(1)
	l, next, e := vol.Snap([]api.Vol{v}, 2, 1)
	root := []api.File{{ID: 1, Dir: true}}
	if e != api.OK || next != 3 || told(l...) != told(api.Vol{ID: 1, Files: root, Next: 2}, api.Vol{ID: 2, From: 1, Snap: true, Files: root, Next: 2}) {
		t.Errorf("%s, %d, %v", told(l...), next, e)
	}
}

// P5.1: Get tells each volume that is there, whole.
func TestGet(t *testing.T) {
	l := sample(t)
	for _, want := range l {
		if v, e := vol.Get(l, 8, want.ID); e != api.OK || told(v) != told(want) {
			t.Errorf("%d: %s, %v", want.ID, told(v), e)
		}
	}
}

// P5.1: Put lays a volume in the place of the one with its ID, whatever else of it is another.
func TestPut(t *testing.T) {
	l := sample(t)
	for i := range l {
		v := with(t, l[i].ID, "new")
		v.Next = 99
		if l[i].Snap {
			v = snapOf(v, v.ID, 4)
		}
		want := twins(l...)
		want[i] = v
		if x, e := vol.Put(l, 8, v); e != api.OK || told(x...) != told(want...) {
			t.Errorf("%d: %s, %v", v.ID, told(x...), e)
		}
	}
	// A snapshot may become a volume, and a volume that has none a snapshot.
	free := twin(l[1])
	free.Snap, free.From = false, 0
	if x, e := vol.Put(l, 8, free); e != api.OK || told(x...) != told(l[0], free, l[2], l[3]) {
		t.Errorf("%s, %v", told(x...), e)
	}
	bound := snapOf(l[2], 4, 1)
	if x, e := vol.Put(l, 8, bound); e != api.OK || told(x...) != told(l[0], l[1], bound, l[3]) {
		t.Errorf("%s, %v", told(x...), e)
	}
}

// P5.2: Snap and Clone, of a volume with several snapshots and of one with none.
func TestSnapClone(t *testing.T) {
	l := sample(t)[:3]
	for _, c := range []struct {
		o    op
		want api.Vol
	}{
		{op{kind: "snap", id: 1}, snapOf(l[0], 8, 1)}, {op{kind: "snap", id: 4}, snapOf(l[2], 8, 4)},
		{op{kind: "clone", id: 3}, api.Vol{ID: 8, Files: l[1].Files, Next: l[1].Next}},
	} {
		a := do(l, 8, c.o)
		if a.told() != (answer{l: []api.Vol{l[0], l[1], l[2], c.want}, next: 9}).told() {
			t.Errorf("%v: %s", c.o, a.told())
		}
	}
	two := []api.Vol{l[0], l[1], snapOf(l[0], 5, 1)}
	if x, next, e := vol.Snap(two, 6, 1); e != api.OK || next != 7 || told(x...) != told(two[0], two[1], two[2], snapOf(l[0], 6, 1)) {
		t.Errorf("%s, %d, %v", told(x...), next, e)
	}
	// Next is not the last ID and one: no ID comes again.
	if x, next, e := vol.Snap(l, 77, 1); e != api.OK || next != 78 || x[3].ID != 77 {
		t.Errorf("%s, %d, %v", told(x...), next, e)
	}
}

// P5.2: Drop takes away just the one, whichever it is.
func TestDrop(t *testing.T) {
	l := sample(t)
	for id, want := range map[int]string{3: told(l[0], l[2], l[3]), 4: told(l[0], l[1], l[3]), 7: told(l[0], l[1], l[2])} {
		if x, e := vol.Drop(l, 8, id); e != api.OK || told(x...) != want {
			t.Errorf("%d: %s, %v", id, told(x...), e)
		}
	}
	if x, e := vol.Drop(l[:1], 8, 1); e != api.OK || len(x) != 0 {
		t.Errorf("%s, %v", told(x...), e)
	}
	if x, e := vol.Drop([]api.Vol{l[0], l[2]}, 8, 1); e != api.OK || told(x...) != told(l[2]) {
		t.Errorf("%s, %v", told(x...), e)
	}
}

// P5.2: Back to the oldest, the newest, and the one between: those that came later are gone.
func TestBack(t *testing.T) {
	l := []api.Vol{with(t, 2, "now"), snapOf(with(t, 1, "a"), 3, 2), snapOf(with(t, 1, "a", "b"), 4, 2), snapOf(with(t, 1, "a", "b", "c"), 6, 2)}
	l[0].Next = 9
	for i := 1; i < len(l); i++ {
		at := l[0]
		at.Files = l[i].Files
		want := append([]api.Vol{at}, l[1:i+1]...)
		if x, e := vol.Back(l, 7, l[i].ID); e != api.OK || told(x...) != told(want...) {
			t.Errorf("%d: %s, %v", l[i].ID, told(x...), e)
		}
	}
}

// P5.2: behind Back Next is the greater one of the volume's and the snapshot's; the snapshot keeps its own.
func TestBackNext(t *testing.T) {
	for _, c := range [][3]int{{9, 9, 9}, {9, 10, 10}, {10, 9, 10}, {api.MaxNum, 5, api.MaxNum}, {5, api.MaxNum, api.MaxNum}, {api.MaxNum, api.MaxNum, api.MaxNum}, {5, 4, 5}} {
		v, snap := with(t, 1, "a", "b"), snapOf(with(t, 1, "c"), 2, 1)
		v.Next, snap.Next = c[0], c[1]
		x, e := vol.Back([]api.Vol{v, snap}, 3, 2)
		at := v
		at.Files, at.Next = snap.Files, c[2]
		if e != api.OK || told(x...) != told(at, snap) {
			t.Errorf("%v: %s, %v", c, told(x...), e)
		}
	}
}

// P5.2, P5.3: of Back only snapshots of that volume go: not those of others, nor volumes, however new.
func TestBackOthers(t *testing.T) {
	v, b := with(t, 1, "a"), with(t, 5, "b")
	old := snapOf(with(t, 1, "old"), 2, 1)
	at := v
	at.Files = old.Files
	c := with(t, 6, "c")
	for i, x := range []struct {
		l    []api.Vol
		id   int
		want string
	}{
		{[]api.Vol{v, old, b, snapOf(b, 6, 5)}, 2, told(at, old, b, snapOf(b, 6, 5))},
		{[]api.Vol{v, old, b, c}, 2, told(at, old, b, c)},
		{[]api.Vol{v, snapOf(b, 3, 5), b, snapOf(b, 7, 5)}, 3, told(v, snapOf(b, 3, 5), b)},
	} {
		if l, e := vol.Back(x.l, 8, x.id); e != api.OK || told(l...) != x.want {
			t.Errorf("%d: %s, %v: not %s", i, told(l...), e, x.want)
		}
	}
	// A snapshot's ID may be less than its volume's.
	early := []api.Vol{snapOf(old, 2, 5), snapOf(old, 3, 5), b, snapOf(old, 6, 5)}
	gone := b
	gone.Files, gone.Next = old.Files, max(b.Next, old.Next)
	for id, want := range map[int]string{2: told(early[0], gone), 3: told(early[0], early[1], gone), 6: told(early[0], early[1], gone, early[3])} {
		if x, e := vol.Back(early, 8, id); e != api.OK || told(x...) != want {
			t.Errorf("%d: %s, %v", id, told(x...), e)
		}
	}
}

// P5.1, P5.2: no volumes; as many as may be; next at both its ends; the least and the greatest ID.
func TestEdges(t *testing.T) {
	for _, next := range []int{1, 2, api.MaxNum} {
		for _, kind := range kinds() {
			want := api.ErrNone
			if kind == "check" {
				want = api.OK
			}
			for _, id := range []int{0, 1, -1, next} {
				if a := do(nil, next, op{kind, id, with(t, 1)}); !a.only(want) {
					t.Errorf("%s %d: %s", kind, id, a.told())
				}
				if a := do([]api.Vol{}, next, op{kind, id, with(t, 1)}); !a.only(want) {
					t.Errorf("%s %d: %s", kind, id, a.told())
				}
			}
		}
	}
	first, last := with(t, 1, "a"), with(t, api.MaxNum-1, "b")
	l := []api.Vol{first, last}
	for i, id := range []int{1, api.MaxNum - 1} {
		if v, e := vol.Get(l, api.MaxNum, id); e != api.OK || told(v) != told(l[i]) {
			t.Errorf("%d: %s, %v", id, told(v), e)
		}
		for _, kind := range []string{"snap", "clone"} {
			want := wanted(l, api.MaxNum, op{kind: kind, id: id})
			if a := do(l, api.MaxNum, op{kind: kind, id: id}); a.told() != want.told() || a.e == api.OK {
				t.Errorf("%s %d: %s", kind, id, a.told())
			}
		}
	}
	x, next, e := vol.Snap(l[:1], api.MaxNum-1, 1)
	if e != api.OK || next != api.MaxNum || told(x...) != told(first, snapOf(first, api.MaxNum-1, 1)) || vol.Check(x, next) != api.OK {
		t.Fatalf("%s, %d, %v", told(x...), next, e)
	}
	if y, n, e := vol.Clone(x, next, api.MaxNum-1); len(y) != 0 || n != 0 || e != api.ErrLimit {
		t.Errorf("%s, %d, %v", told(y...), n, e)
	}
	if y, e := vol.Back(x, next, api.MaxNum-1); e != api.OK || told(y...) != told(x...) {
		t.Errorf("%s, %v", told(y...), e)
	}
	if y, e := vol.Drop(x, next, api.MaxNum-1); e != api.OK || told(y...) != told(first) {
		t.Errorf("%s, %v", told(y...), e)
	}
}

// P5.2: at MaxVols there is no more, till one is gone.
func TestMaxVols(t *testing.T) {
	l, next := []api.Vol{with(t, 1, "a")}, 2
	var e api.Errno
	for len(l) < api.MaxVols {
		if l, next, e = vol.Snap(l, next, 1); e != api.OK || vol.Check(l, next) != api.OK {
			t.Fatalf("%d: %v", len(l), e)
		}
	}
	for _, o := range []op{{kind: "snap", id: 1}, {kind: "clone", id: 2}, {kind: "clone", id: 4}} {
		if a := do(l, next, o); !a.only(api.ErrLimit) {
			t.Errorf("%v: %s", o, a.told())
		}
	}
	if l, e = vol.Drop(l, next, 3); e != api.OK || len(l) != api.MaxVols-1 {
		t.Fatalf("%v", e)
	}
	clone := with(t, 1, "a")
	clone.ID = 5
	if x, n, e := vol.Clone(l, next, 4); e != api.OK || n != 6 || told(x...) != told(l[0], l[1], l[2], clone) {
		t.Errorf("%s, %d, %v", told(x...), n, e)
	}
}

// changed is one of the volumes as an op of tree, or a new size of a file, would leave it; now and then it may not be.
func changed(d *dice, l []api.Vol) api.Vol {
	v := twin(l[d.below(len(l))])
	if d.below(12) == 0 {
		v.ID = d.below(12)
	}
	p := pick(d, "/a", "/b", "/d", "/d/a", "/d/b")
	if v.Snap {
		v.From = pick(d, v.From, v.From, 1, d.below(9))
		v.Snap = d.below(8) > 0
	} else if d.below(10) == 0 {
		v.Snap, v.From = true, l[0].ID
	} else if w, e := pick(d, tree.Make, tree.Make, tree.Dir, tree.Unlink, tree.Rmdir)(v, p); e == api.OK {
		v = w
	}
	for i := range v.Files {
		if f := &v.Files[i]; !f.Dir && d.below(4) == 0 {
			f.Size, f.Blocks = 1+d.below(32), []int{d.below(api.MaxNum)}
		}
	}
	v.Next += pick(d, 0, 0, 0, 0, 1, 3, -1)
	return v
}

// P5.1 to P5.3: long rows of calls against the document's words; each error that a call has is met.
func TestRows(t *testing.T) {
	met := map[string]map[api.Errno]int{}
	for _, kind := range kinds() {
		met[kind] = map[api.Errno]int{}
	}
	for row := range 150 {
		d := dice(row)
		first, _ := tree.New(1)
		l, next := []api.Vol{first}, 2
		if row%10 == 0 {
			next = api.MaxNum - 2
		}
		for range 300 {
			o := op{pick(&d, "put", "put", "put", "snap", "snap", "clone", "clone", "drop", "back", "get", "check"), pick(&d, l...).ID, changed(&d, l)}
			if d.below(8) == 0 {
				o.id = d.below(next + 1)
			}
			asked, askedNext := twins(l...), next
			if d.below(20) == 0 {
				k := d.below(len(asked))
				asked[k] = changed(&d, asked)
				askedNext = pick(&d, next, next-1, 0, api.MaxNum+1)
			}
			was := told(asked...) + told(o.v)
			want := wanted(asked, askedNext, o)
			a := do(asked, askedNext, o)
			met[o.kind][a.e]++
			if a.told() != want.told() {
				t.Fatalf("%v of %d, %s: %s: not %s", o, askedNext, was, a.told(), want.told())
			}
			if told(asked...)+told(o.v) != was {
				t.Fatalf("%v of %s: changed to %s", o, was, told(asked...))
			}
			if a.e == api.OK && askedNext == next && len(a.l) > 0 {
				next = max(next, a.next)
				if l = a.l; !mayBe(l, next) || vol.Check(l, next) != api.OK {
					t.Fatalf("%v of %s: %s may not be", o, was, told(l...))
				}
			}
		}
	}
	for kind, l := range map[string][]api.Errno{
		"check": {api.OK, api.ErrForm},
		"get":   {api.OK, api.ErrForm, api.ErrNone},
		"put":   {api.OK, api.ErrForm, api.ErrNone},
		"snap":  {api.OK, api.ErrForm, api.ErrNone, api.ErrState, api.ErrLimit},
		"clone": {api.OK, api.ErrForm, api.ErrNone, api.ErrState, api.ErrLimit},
		"drop":  {api.OK, api.ErrForm, api.ErrNone, api.ErrUsed},
		"back":  {api.OK, api.ErrForm, api.ErrNone, api.ErrState},
	} {
		for _, e := range l {
			if met[kind][e] == 0 {
				t.Errorf("%s: %v was not met", kind, e)
			}
		}
		if len(met[kind]) != len(l) {
			t.Errorf("%s: %v", kind, met[kind])
		}
	}
}
