package vol_test

import (
	"math"
	"slices"
	"testing"

	"hermitage/api"
	"hermitage/vol"
)

// form is volumes that may not be.
type form struct {
	what string
	next int
	l    []api.Vol
}

// forms are all made of the sample, which may be.
func forms(t *testing.T) (all []form) {
	for _, next := range []int{0, -1, 7, 1, api.MaxNum + 1, math.MinInt, math.MaxInt, 1 << 32, 1<<32 + 8} {
		all = append(all, form{"next", next, sample(t)})
	}
	for _, next := range []int{0, -1, api.MaxNum + 1, math.MinInt, math.MaxInt} {
		all = append(all, form{"next of none", next, nil})
	}
	turn := func(what string, turn func(l []api.Vol) []api.Vol) {
		all = append(all, form{what, 8, turn(sample(t))})
	}
	set := func(what string, i int, turn func(v *api.Vol)) {
		l := sample(t)
		turn(&l[i])
		all = append(all, form{what, 8, l})
	}
	for i := range sample(t) {
		set("no Next", i, func(v *api.Vol) { v.Next = 1 })
		set("no files", i, func(v *api.Vol) { v.Files = nil })
		set("a file that may not be", i, func(v *api.Vol) { v.Files[2].Size = 65 })
		set("no volume at all", i, func(v *api.Vol) { *v = api.Vol{} })
		for _, id := range []int{0, -1, math.MinInt, 8, math.MaxInt, api.MaxNum, api.MaxNum + 1} {
			set("ID", i, func(v *api.Vol) { v.ID = id })
		}
	}
	set("ID of the one behind", 0, func(v *api.Vol) { v.ID = 3 })
	set("ID of the one ahead", 1, func(v *api.Vol) { v.ID = 1 })
	set("ID of the one ahead", 3, func(v *api.Vol) { v.ID = 4 })
	set("ID above the one behind", 1, func(v *api.Vol) { v.ID = 5 })
	for _, from := range []int{0, 2, 3, 5, 7, 8, -1, math.MinInt, math.MaxInt} {
		set("snapshot's From", 1, func(v *api.Vol) { v.From = from })
		set("snapshot's From", 3, func(v *api.Vol) { v.From = from })
	}
	for _, from := range []int{1, 3, 4, 7, 9, -1} {
		set("volume's From", 0, func(v *api.Vol) { v.From = from })
		set("volume's From", 2, func(v *api.Vol) { v.From = from })
	}
	set("From of what is a snapshot now", 0, func(v *api.Vol) { v.Snap, v.From = true, 4 })
	set("From itself", 0, func(v *api.Vol) { v.Snap, v.From = true, 1 })
	turn("turned", func(l []api.Vol) []api.Vol { slices.Reverse(l); return l })
	turn("the first two turned", func(l []api.Vol) []api.Vol { l[0], l[1] = l[1], l[0]; return l })
	turn("without the snapshots' volume", func(l []api.Vol) []api.Vol { return l[1:] })
	turn("one twice", func(l []api.Vol) []api.Vol { l[2] = l[1]; return l })
	turn("too many", func(l []api.Vol) []api.Vol { return slices.Insert(l, 1, with(t, 2, "a")) })
	all = append(all, form{"too many, at the end", 9, append(sample(t), with(t, 8, "a"))})
	many := make([]api.Vol, 1<<16)
	for i := range many {
		many[i] = with(t, 1)
		many[i].ID = i + 1
	}
	return append(all, form{"far too many", 1<<16 + 1, many})
}

// R4, P5.1, P5.2: volumes that may not be are ErrForm ahead of all.
func TestForms(t *testing.T) {
	if l := sample(t); vol.Check(l, 8) != api.OK || vol.Check(l, api.MaxNum) != api.OK || vol.Check(nil, 1) != api.OK || vol.Check(nil, api.MaxNum) != api.OK {
		t.Fatalf("the sample may not be")
	}
	for _, f := range forms(t) {
		if mayBe(f.l, f.next) {
			t.Fatalf("%s: the tests' own words say that may be", f.what)
		}
		for _, kind := range kinds() {
			for _, id := range []int{1, 3, 4, 7, 2, 0, -1, 8, math.MaxInt} {
				o := op{kind, id, with(t, 1, "a")}
				o.v.ID = id
				if a := do(f.l, f.next, o); !a.only(api.ErrForm) {
					t.Errorf("%s: %s %d: %s", f.what, kind, id, a.told())
				}
			}
		}
	}
}

// P5.1, P5.2: ErrNone of each ID that no volume has, also where there is no room.
func TestNone(t *testing.T) {
	l := sample(t)
	for _, next := range []int{8, api.MaxNum} {
		for _, kind := range kinds()[1:] {
			for _, id := range []int{2, 5, 6, 8, 9, 0, -1, api.MaxNum, math.MinInt, math.MaxInt, 1<<32 + 1} {
				for _, v := range []api.Vol{{}, with(t, 1, "a"), snapOf(l[0], 1, 99)} {
					v.ID = id
					if a := do(l, next, op{kind, id, v}); !a.only(api.ErrNone) {
						t.Errorf("%s %d: %s", kind, id, a.told())
					}
				}
			}
		}
	}
}

// P5.1: Put of what may not be, by itself or with the others, is ErrForm.
func TestPutForm(t *testing.T) {
	l := sample(t)
	for i, v := range []api.Vol{
		{ID: 1}, {ID: 3}, {ID: 7, Snap: true, From: 1},
		snapOf(l[0], 1, 4), snapOf(l[0], 1, 1), snapOf(l[1], 3, 3), snapOf(l[1], 3, 7), snapOf(l[1], 3, 2), snapOf(l[1], 3, 0), snapOf(l[3], 7, 3), snapOf(l[3], 7, 8), snapOf(l[2], 4, 3), snapOf(l[2], 4, 4),
	} {
		if a := do(l, 8, op{kind: "put", v: v}); !a.only(api.ErrForm) {
			t.Errorf("%d: %s", i, a.told())
		}
	}
	for i := range l {
		for k, turn := range []func(v *api.Vol){
			func(v *api.Vol) { v.Next = 2 },
			func(v *api.Vol) { v.Next = api.MaxNum + 1 },
			func(v *api.Vol) { v.Files = v.Files[1:] },
			func(v *api.Vol) { v.Files[0].List[0].ID = 99 },
			func(v *api.Vol) { v.Files[2].Blocks = nil },
			func(v *api.Vol) { v.Snap = !v.Snap },
		} {
			v := twin(l[i])
			turn(&v)
			if a := do(l, 8, op{kind: "put", v: v}); !a.only(api.ErrForm) {
				t.Errorf("%d, %d: %s", i, k, a.told())
			}
		}
	}
}

// P5.2: the errors in the document's order, where several apply.
func TestOrder(t *testing.T) {
	l := sample(t)
	for i, c := range []struct {
		o    op
		l    []api.Vol
		next int
		want api.Errno
	}{
		{op{kind: "snap", id: 3}, l, 8, api.ErrState}, {op{kind: "snap", id: 7}, l, api.MaxNum, api.ErrState}, {op{kind: "snap", id: 3}, l[:2], 8, api.ErrState},
		{op{kind: "snap", id: 1}, l, 8, api.ErrLimit}, {op{kind: "snap", id: 4}, l, 8, api.ErrLimit}, {op{kind: "snap", id: 1}, l[:2], api.MaxNum, api.ErrLimit}, {op{kind: "snap", id: 1}, l, api.MaxNum, api.ErrLimit},
		{op{kind: "clone", id: 1}, l, 8, api.ErrState}, {op{kind: "clone", id: 4}, l, api.MaxNum, api.ErrState}, {op{kind: "clone", id: 1}, l[:2], 8, api.ErrState},
		{op{kind: "clone", id: 3}, l, 8, api.ErrLimit}, {op{kind: "clone", id: 7}, l, 8, api.ErrLimit}, {op{kind: "clone", id: 3}, l[:2], api.MaxNum, api.ErrLimit},
		{op{kind: "drop", id: 1}, l, 8, api.ErrUsed}, {op{kind: "drop", id: 1}, l[:2], 8, api.ErrUsed}, {op{kind: "drop", id: 1}, l, api.MaxNum, api.ErrUsed},
		{op{kind: "back", id: 1}, l, 8, api.ErrState}, {op{kind: "back", id: 4}, l, api.MaxNum, api.ErrState}, {op{kind: "back", id: 1}, l[:1], 8, api.ErrState},
	} {
		if w := wanted(c.l, c.next, c.o); w.e != c.want {
			t.Fatalf("%d: the tests' own words say %v", i, w.e)
		}
		if a := do(c.l, c.next, c.o); !a.only(c.want) {
			t.Errorf("%d: %s", i, a.told())
		}
	}
}
