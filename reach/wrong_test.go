package reach_test

import (
	"fmt"
	"math"
	"slices"
	"testing"

	"hermitage/api"
	"hermitage/vol"
)

// form is volumes that may not be.
type form struct {
	what string
	next int
	l    []api.Vol
}

// forms are all made of the sample, which may be.
func forms() (all []form) {
	for _, next := range []int{0, -1, 1, 7, api.MaxNum + 1, math.MinInt, math.MaxInt, 1 << 32, 1<<32 + 8} {
		all = append(all, form{"next", next, sample()})
	}
	for _, next := range []int{0, -1, api.MaxNum + 1, math.MinInt, math.MaxInt, 1<<32 + 1} {
		all = append(all, form{"next of none", next, nil})
	}
	set := func(what string, i int, turn func(v *api.Vol)) {
		l := sample()
		turn(&l[i])
		all = append(all, form{what, 8, l})
	}
	for i := range sample() {
		set("no volume at all", i, func(v *api.Vol) { *v = api.Vol{} })
		set("no files", i, func(v *api.Vol) { v.Files = nil })
		set("no root", i, func(v *api.Vol) { v.Files[0].Dir = false })
		set("a block too few", i, func(v *api.Vol) { v.Files[len(v.Files)-1].Size += api.Sector })
		set("a block of the root", i, func(v *api.Vol) { v.Files[0].Blocks = []int{1} })
		set("a link to nothing", i, func(v *api.Vol) { v.Files[0].List[0].ID = 99 })
		for _, b := range []int{-1, api.MaxNum, math.MinInt, math.MaxInt} {
			set("block", i, func(v *api.Vol) { v.Files[len(v.Files)-1].Blocks[0] = b })
		}
		for _, id := range []int{0, -1, 8, api.MaxNum, math.MaxInt} {
			set("ID", i, func(v *api.Vol) { v.ID = id })
		}
	}
	set("ID of the one ahead", 1, func(v *api.Vol) { v.ID = 1 })
	set("ID of the one behind", 2, func(v *api.Vol) { v.ID = 7 })
	for _, from := range []int{0, 2, 3, 7, 8, -1} {
		set("snapshot's From", 1, func(v *api.Vol) { v.From = from })
	}
	set("volume's From", 2, func(v *api.Vol) { v.From = 1 })
	turned := sample()
	slices.Reverse(turned)
	all = append(all, form{"turned", 8, turned}, form{"without the snapshots' volume", 8, sample()[1:]})
	return append(all, form{"too many", 9, append(sample(), with(8, []int{1}))})
}

// R4, P6.1: volumes that may not be are ErrForm ahead of all.
func TestForms(t *testing.T) {
	if vol.Check(sample(), 8) != api.OK {
		t.Fatalf("the sample may not be")
	}
	for _, f := range forms() {
		for _, kind := range kinds() {
			for _, id := range []int{1, 3, 4, 7, 2, 0, -1, 8, math.MinInt, math.MaxInt} {
				errs(t, f.what, f.l, f.next, op{kind, id}, api.ErrForm)
			}
		}
	}
}

// P6.1: Only is ErrNone of each ID that no volume has.
func TestNone(t *testing.T) {
	for _, next := range []int{8, api.MaxNum} {
		for _, id := range []int{2, 5, 6, 8, 9, 0, -1, api.MaxNum, math.MinInt, math.MaxInt, 1<<32 + 1} {
			errs(t, "the sample", sample(), next, op{"only", id}, api.ErrNone)
			errs(t, "no volumes", nil, next, op{"only", id}, api.ErrNone)
			errs(t, "no volumes", []api.Vol{}, next, op{"only", id}, api.ErrNone)
		}
	}
	errs(t, "no volumes", nil, 1, op{"only", 1}, api.ErrNone)
}

// spoil writes into a list, and into the room behind it.
func spoil(l []int) {
	for i := range l[:cap(l)] {
		l[:cap(l)][i] = -5
	}
}

// roomy is the same volume with room behind each list.
func roomy(v api.Vol) api.Vol {
	v = twin(v)
	for i := range v.Files {
		f := &v.Files[i]
		f.Blocks = append(f.Blocks, 77, 77)[:len(f.Blocks)]
		f.List = append(f.List, api.Link{Name: "room", ID: 77})[:len(f.List)]
	}
	v.Files = append(v.Files, api.File{ID: 77})[:len(v.Files)]
	return v
}

// whole is all of roomy volumes as a text, the room behind their lists, too.
func whole(l []api.Vol) (s string) {
	for _, v := range l[:len(l)+1] {
		s += fmt.Sprint(v.ID, v.From, v.Snap, v.Next)
		if len(v.Files) == 0 {
			continue
		}
		for _, f := range v.Files {
			s += fmt.Sprint(f.ID, f.Dir, f.Size, f.Blocks[:len(f.Blocks)+2], f.List[:len(f.List)+1])
		}
		s += fmt.Sprint(v.Files[:len(v.Files)+1][len(v.Files)])
	}
	return s
}

// R1, R2: what is handed in stays as it was, room behind its lists too; what is told is new memory, and the same each time.
func TestMemory(t *testing.T) {
	var l []api.Vol
	for _, v := range sample() {
		l = append(l, roomy(v))
	}
	l = append(l, api.Vol{ID: 77})[:len(l)]
	was := whole(l)
	for _, kind := range kinds() {
		for _, id := range []int{1, 3, 4, 7, 2} {
			o := op{kind, id}
			first, second := do(l, 8, o), do(l, 8, o)
			spoil(first.l)
			if want := wanted(l, o); second.told() != want.told() || do(l, 8, o).told() != want.told() {
				t.Errorf("%s %d: %s: not %s", kind, id, second.told(), want.told())
			}
			if whole(l) != was {
				t.Fatalf("%s %d: changed", kind, id)
			}
		}
	}
}

// R2: what was told stays, whatever becomes of what was handed in.
func TestNotKept(t *testing.T) {
	for _, kind := range kinds() {
		l := sample()
		o := op{kind, 4}
		a := do(l, 8, o)
		want := wanted(sample(), o).told()
		for _, v := range l {
			for _, f := range v.Files {
				spoil(f.Blocks)
			}
		}
		if a.told() != want {
			t.Errorf("%s: kept: %s", kind, a.told())
		}
	}
}

// R2: a nil list and an empty one are one.
func TestEmptyLists(t *testing.T) {
	empty := twins(sample()...)
	for i := range empty {
		for k := range empty[i].Files {
			f := &empty[i].Files[k]
			f.Blocks, f.List = append([]int{}, f.Blocks...), append([]api.Link{}, f.List...)
		}
	}
	for _, kind := range kinds() {
		for _, id := range []int{1, 3, 4, 7} {
			if a, b := do(sample(), 8, op{kind, id}), do(empty, 8, op{kind, id}); a.told() != b.told() {
				t.Errorf("%s %d: %s", kind, id, b.told())
			}
		}
	}
}
