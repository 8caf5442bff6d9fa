package vol_test

import (
	"fmt"
	"maps"
	"slices"
	"testing"

	"hermitage/api"
	"hermitage/tree"
	"hermitage/vol"
)

// op is a call: its kind, the volume's ID; of put the volume.
type op struct {
	kind string
	id   int
	v    api.Vol
}

func kinds() []string {
	return []string{"check", "get", "put", "snap", "clone", "drop", "back"}
}

// answer is all that a call tells; next where the call tells one.
type answer struct {
	l    []api.Vol
	v    api.Vol
	next int
	e    api.Errno
}

// told is all of it as a text; a nil list and an empty one are one.
func (a answer) told() string {
	return fmt.Sprint(a.e, " ", a.next, " ", told(a.v), "| ", told(a.l...))
}

// only tells whether e is the one thing that was told.
func (a answer) only(e api.Errno) bool {
	return a.told() == answer{e: e}.told()
}

func told(l ...api.Vol) string {
	s := ""
	for _, v := range l {
		s += fmt.Sprint(v.ID, " ", v.From, " ", v.Snap, " ", v.Next, ":")
		for _, f := range v.Files {
			s += fmt.Sprint(" ", f.ID, " ", f.Dir, " ", f.Size, " ", f.Blocks, f.List, ";")
		}
		s += "\n"
	}
	return s
}

// do lets the program do it.
func do(l []api.Vol, next int, o op) (a answer) {
	switch o.kind {
	case "check":
		a.e = vol.Check(l, next)
	case "get":
		a.v, a.e = vol.Get(l, next, o.id)
	case "put":
		a.l, a.e = vol.Put(l, next, o.v)
	case "snap":
		a.l, a.next, a.e = vol.Snap(l, next, o.id)
	case "clone":
		a.l, a.next, a.e = vol.Clone(l, next, o.id)
	case "drop":
		a.l, a.e = vol.Drop(l, next, o.id)
	case "back":
		a.l, a.e = vol.Back(l, next, o.id)
	}
	return a
}

// mayBe is the document's words, apart from the program's way.
func mayBe(l []api.Vol, next int) bool {
	if len(l) > api.MaxVols || next < 1 || next > api.MaxNum {
		return false
	}
	plain := map[int]bool{}
	for i, v := range l {
		if tree.Check(v) != api.OK || v.ID < 1 || v.ID >= next || i > 0 && v.ID <= l[i-1].ID {
			return false
		}
		plain[v.ID] = !v.Snap
	}
	return !slices.ContainsFunc(l, func(v api.Vol) bool { return v.Snap && !plain[v.From] })
}

// shelf is volumes as the tests keep them, by their IDs.
type shelf map[int]api.Vol

func (s shelf) row() (l []api.Vol) {
	for _, id := range slices.Sorted(maps.Keys(s)) {
		l = append(l, twin(s[id]))
	}
	return l
}

// wanted is what the document asks for.
func wanted(l []api.Vol, next int, o op) answer {
	if !mayBe(l, next) {
		return answer{e: api.ErrForm}
	}
	if o.kind == "check" {
		return answer{}
	}
	s := shelf{}
	for _, v := range l {
		s[v.ID] = v
	}
	if o.kind == "put" {
		o.id = o.v.ID
	}
	v, is := s[o.id]
	if !is {
		return answer{e: api.ErrNone}
	}
	switch o.kind {
	case "get":
		return answer{v: twin(v)}
	case "put":
		return s.put(next, o.v)
	case "drop":
		return s.drop(v)
	case "back":
		return s.back(v)
	}
	return s.add(next, v, o.kind == "snap")
}

func (s shelf) put(next int, v api.Vol) answer {
	s[v.ID] = v
	if l := s.row(); mayBe(l, next) {
		return answer{l: l}
	}
	return answer{e: api.ErrForm}
}

func (s shelf) add(next int, v api.Vol, snap bool) answer {
	if v.Snap == snap {
		return answer{e: api.ErrState}
	}
	if len(s) == api.MaxVols || next == api.MaxNum {
		return answer{e: api.ErrLimit}
	}
	from := v.ID
	if !snap {
		from = 0
	}
	s[next] = api.Vol{ID: next, From: from, Snap: snap, Files: v.Files, Next: v.Next}
	return answer{l: s.row(), next: next + 1}
}

func (s shelf) drop(v api.Vol) answer {
	for _, x := range s {
		if x.Snap && x.From == v.ID {
			return answer{e: api.ErrUsed}
		}
	}
	delete(s, v.ID)
	return answer{l: s.row()}
}

func (s shelf) back(snap api.Vol) answer {
	if !snap.Snap {
		return answer{e: api.ErrState}
	}
	v := s[snap.From]
	v.Files = snap.Files
	if v.Next < snap.Next {
		v.Next = snap.Next
	}
	s[v.ID] = v
	for id, x := range s {
		if x.Snap && x.From == v.ID && id > snap.ID {
			delete(s, id)
		}
	}
	return answer{l: s.row()}
}

// twin is a copy of all of it.
func twin(v api.Vol) api.Vol {
	v.Files = slices.Clone(v.Files)
	for i, f := range v.Files {
		v.Files[i].Blocks, v.Files[i].List = slices.Clone(f.Blocks), slices.Clone(f.List)
	}
	return v
}

func twins(l ...api.Vol) (all []api.Vol) {
	for _, v := range l {
		all = append(all, twin(v))
	}
	return all
}

// with is a volume with a directory d, and a file of two blocks by each of the names.
func with(t *testing.T, id int, names ...string) api.Vol {
	t.Helper()
	v, e := tree.New(id)
	if e == api.OK {
		v, e = tree.Dir(v, "/d")
	}
	for _, s := range names {
		if e == api.OK {
			v, e = tree.Make(v, "/d/"+s)
		}
	}
	if e != api.OK {
		t.Fatalf("%v", e)
	}
	for i := range v.Files {
		if f := &v.Files[i]; !f.Dir {
			f.Size, f.Blocks = 33, []int{id%100 + i, 10 * f.ID}
		}
	}
	return v
}

// snapOf is a snapshot of the volume with ID from, with the files of v.
func snapOf(v api.Vol, id, from int) api.Vol {
	v = twin(v)
	v.ID, v.From, v.Snap = id, from, true
	return v
}

// dice throws numbers that are always the same.
type dice uint64

func (d *dice) below(n int) int {
	*d = *d*6364136223846793005 + 1442695040888963407
	return int(*d >> 33 % dice(n))
}

func pick[T any](d *dice, l ...T) T {
	return l[d.below(len(l))]
}
