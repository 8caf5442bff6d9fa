package vol_test

import (
	"testing"

	"hermitage/api"
)

const rubbish = -5

// spoil writes into a volume's lists, and into the room behind them.
func spoil(v api.Vol) {
	for i := range v.Files {
		f := v.Files[i]
		for k := range f.Blocks[:cap(f.Blocks)] {
			f.Blocks[:cap(f.Blocks)][k] = rubbish
		}
		for k := range f.List[:cap(f.List)] {
			f.List[:cap(f.List)][k] = api.Link{Name: "rubbish", ID: rubbish}
		}
	}
	for i := range v.Files[:cap(v.Files)] {
		v.Files[:cap(v.Files)][i] = api.File{ID: rubbish, Size: rubbish}
	}
}

// spoilAll writes into all that a call told.
func spoilAll(a answer) {
	spoil(a.v)
	for i := range a.l {
		spoil(a.l[i])
	}
	for i := range a.l[:cap(a.l)] {
		a.l[:cap(a.l)][i] = api.Vol{ID: rubbish}
	}
}

// roomy is the same volume with room behind each list.
func roomy(v api.Vol) api.Vol {
	v = twin(v)
	for i := range v.Files {
		f := &v.Files[i]
		f.Blocks = append(f.Blocks, 77, 77)[:len(f.Blocks)]
		f.List = append(f.List, api.Link{Name: "room", ID: 77})[:len(f.List)]
	}
	v.Files = append(v.Files, api.File{ID: 77})[:len(v.Files)]
	return v
}

// room is what lies behind the lists of roomy volumes.
func room(l []api.Vol) (all []int) {
	for _, v := range l[:len(l)+1] {
		if len(v.Files) == 0 {
			all = append(all, v.ID)
			continue
		}
		all = append(all, v.Files[:len(v.Files)+1][len(v.Files)].ID)
		for _, f := range v.Files {
			all = append(all, f.Blocks[:len(f.Blocks)+2][len(f.Blocks):]...)
			all = append(all, f.List[:len(f.List)+1][len(f.List)].ID)
		}
	}
	return all
}

func untouched(l []api.Vol) bool {
	for _, n := range room(l) {
		if n != 77 {
			return false
		}
	}
	return true
}

// calls are some of each kind, those that succeed ahead.
func calls(l []api.Vol) []op {
	put := roomy(l[1])
	put.Next = 50
	return []op{
		{kind: "check"}, {kind: "get", id: 1}, {kind: "get", id: 3}, {kind: "put", v: put}, {kind: "put", v: l[2]}, {kind: "snap", id: 1}, {kind: "snap", id: 4}, {kind: "clone", id: 3}, {kind: "drop", id: 3}, {kind: "drop", id: 4}, {kind: "back", id: 3},
		{kind: "get", id: 2}, {kind: "put", v: api.Vol{ID: 3}}, {kind: "snap", id: 3}, {kind: "clone", id: 1}, {kind: "drop", id: 1}, {kind: "back", id: 4},
	}
}

// R2, P5.1, P5.2: what is handed in stays as it was, room behind its lists too; whoever writes into what was told changes nothing else.
func TestMemory(t *testing.T) {
	var l []api.Vol
	for _, v := range sample(t)[:3] {
		l = append(l, roomy(v))
	}
	l = append(l, api.Vol{ID: 77})[:3]
	was := told(l...)
	for i, o := range calls(l) {
		given := told(o.v)
		first, second := do(l, 8, o), do(l, 8, o)
		want := second.told()
		if i < 11 && first.e != api.OK || i >= 11 && first.e == api.OK {
			t.Fatalf("%v: %v", o, first.e)
		}
		spoilAll(first)
		if second.told() != want || told(l...) != was || told(o.v) != given || !untouched(l) {
			t.Fatalf("%s %d: shared", o.kind, o.id)
		}
		if third := do(l, 8, o); third.told() != want {
			t.Errorf("%s %d: kept", o.kind, o.id)
		}
		apart(t, o, second)
	}
}

// apart holds the lists that one call told to have no memory in common: it spoils one after the other.
func apart(t *testing.T, o op, a answer) {
	t.Helper()
	for i, v := range a.l {
		rest := told(a.l[i+1:]...)
		for k, f := range v.Files {
			behind := told(api.Vol{Files: v.Files[k+1:]})
			spoil(api.Vol{Files: []api.File{f}})
			if told(api.Vol{Files: v.Files[k+1:]}) != behind {
				t.Fatalf("%s %d: files share memory", o.kind, o.id)
			}
		}
		spoil(v)
		if told(a.l[i+1:]...) != rest {
			t.Fatalf("%s %d: volumes share memory", o.kind, o.id)
		}
	}
}

// R2: two volumes that are handed in with lists in common come back apart.
func TestCommonLists(t *testing.T) {
	v := with(t, 1, "a", "b")
	other := v
	other.ID = 4
	snap := v
	snap.ID, snap.From, snap.Snap = 5, 1, true
	l := []api.Vol{v, other, snap}
	was := told(l...)
	for _, o := range []op{{kind: "put", v: other}, {kind: "put", v: snap}, {kind: "snap", id: 1}, {kind: "clone", id: 5}, {kind: "drop", id: 4}, {kind: "back", id: 5}} {
		a := do(l, 8, o)
		if a.told() != wanted(l, 8, o).told() {
			t.Errorf("%s %d: %s", o.kind, o.id, a.told())
		}
		apart(t, o, a)
		if told(l...) != was {
			t.Fatalf("%s %d: shared", o.kind, o.id)
		}
	}
}

// R2: a nil list and an empty one are one.
func TestEmptyLists(t *testing.T) {
	l := sample(t)[:3]
	empty := twins(l...)
	for i := range empty {
		for k := range empty[i].Files {
			f := &empty[i].Files[k]
			f.Blocks, f.List = append([]int{}, f.Blocks...), append([]api.Link{}, f.List...)
		}
	}
	for _, o := range calls(l) {
		if o.kind == "put" {
			o.v = l[1]
		}
		if a, b := do(l, 8, o), do(empty, 8, o); a.told() != b.told() {
			t.Errorf("%s %d: %s", o.kind, o.id, b.told())
		}
	}
}
