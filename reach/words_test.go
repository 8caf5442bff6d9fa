package reach_test

import (
	"fmt"
	"maps"
	"slices"
	"testing"

	"hermitage/api"
	"hermitage/reach"
)

// op is a call of those that take volumes: its kind; of only the volume's ID.
type op struct {
	kind string
	id   int
}

func kinds() []string {
	return []string{"named", "counts", "only"}
}

// answer is all that a call tells.
type answer struct {
	l []int
	e api.Errno
}

// told is all of it as a text; a nil list and an empty one are one.
func (a answer) told() string {
	return fmt.Sprint(a.l, " ", a.e)
}

// do lets the program do it.
func do(l []api.Vol, next int, o op) (a answer) {
	switch o.kind {
	case "named":
		a.l, a.e = reach.Named(l, next)
	case "counts":
		a.l, a.e = reach.Counts(l, next)
	case "only":
		a.l, a.e = reach.Only(l, next, o.id)
	}
	return a
}

// holds asks for what one call is to tell, with no error.
func holds(t *testing.T, l []api.Vol, next int, o op, want ...int) {
	t.Helper()
	if a := do(l, next, o); a.told() != (answer{l: want}).told() {
		t.Errorf("%s %d: %s: not %v", o.kind, o.id, a.told(), want)
	}
}

// errs asks for an error, and nothing beside it.
func errs(t *testing.T, what string, l []api.Vol, next int, o op, want api.Errno) {
	t.Helper()
	if a := do(l, next, o); a.e != want || len(a.l) > 0 {
		t.Errorf("%s: %s %d: %s: not %d", what, o.kind, o.id, a.told(), want)
	}
}

// places is the document's words, apart from the program's way: how often each block stands in each volume.
func places(l []api.Vol) map[int]map[int]int {
	all := map[int]map[int]int{}
	for _, v := range l {
		for _, f := range v.Files {
			for _, b := range f.Blocks {
				if all[b] == nil {
					all[b] = map[int]int{}
				}
				all[b][v.ID]++
			}
		}
	}
	return all
}

// wanted is what the document asks for of volumes that may be.
func wanted(l []api.Vol, o op) (a answer) {
	is := slices.ContainsFunc(l, func(v api.Vol) bool { return v.ID == o.id })
	if o.kind == "only" && !is {
		return answer{e: api.ErrNone}
	}
	all := places(l)
	for _, b := range slices.Sorted(maps.Keys(all)) {
		many := 0
		for _, n := range all[b] {
			many += n
		}
		switch {
		case o.kind == "named":
			a.l = append(a.l, b)
		case o.kind == "counts":
			a.l = append(a.l, many)
		case all[b][o.id] == many:
			a.l = append(a.l, b)
		}
	}
	return a
}

// wantedGone is what the document asks for of any numbers.
func wantedGone(l []int, m ...[]int) []int {
	left := map[int]int{}
	for _, n := range l {
		left[n]++
	}
	for _, x := range m {
		for _, n := range x {
			delete(left, n)
		}
	}
	return slices.Sorted(maps.Keys(left))
}

// with is a volume of files that have these blocks, behind a root that names each once.
func with(id int, files ...[]int) api.Vol {
	v := api.Vol{ID: id, Files: []api.File{{ID: 1, Dir: true}}, Next: 2}
	dir := -1
	for i, l := range files {
		if i%api.MaxLinks == api.MaxLinks-1 && i < len(files)-1 {
			// No directory has room for all the files there may be.
			v.Files[0].List = append(v.Files[0].List, api.Link{Name: "z", ID: v.Next})
			v.Files = append(v.Files, api.File{ID: v.Next, Dir: true})
			dir = len(v.Files) - 1
			v.Next++
		}
		at := &v.Files[max(dir, 0)]
		at.List = append(at.List, api.Link{Name: string(rune('a' + i)), ID: v.Next})
		v.Files = append(v.Files, api.File{ID: v.Next, Size: min(len(l)*api.Sector, api.MaxText), Blocks: l})
		v.Next++
	}
	return v
}

// snapOf is a snapshot of the volume with ID from, with the files of v.
func snapOf(v api.Vol, id, from int) api.Vol {
	v = twin(v)
	v.ID, v.From, v.Snap = id, from, true
	return v
}

// twin is a copy of all of it.
func twin(v api.Vol) api.Vol {
	v.Files = slices.Clone(v.Files)
	for i, f := range v.Files {
		v.Files[i].Blocks, v.Files[i].List = slices.Clone(f.Blocks), slices.Clone(f.List)
	}
	return v
}

func twins(l ...api.Vol) (all []api.Vol) {
	for _, v := range l {
		all = append(all, twin(v))
	}
	return all
}

// sample is two volumes and two snapshots of the first one; with 8 as the next ID.
func sample() []api.Vol {
	return []api.Vol{
		with(1, []int{5, 2}, []int{9}),
		snapOf(with(1, []int{5, 2, 8}), 3, 1),
		with(4, []int{4, 4}, nil, []int{0, 9}, []int{4}),
		snapOf(with(1, nil, []int{1, 7, 1}), 7, 1),
	}
}

// dice throws numbers that are always the same.
type dice uint64

func (d *dice) below(n int) int {
	*d = *d*6364136223846793005 + 1442695040888963407
	return int(*d >> 33 % dice(n))
}

// numbers are so few that many of them come again.
func (d *dice) numbers(most int, greatest int) (l []int) {
	for range d.below(most + 1) {
		l = append(l, d.below(greatest+1))
	}
	return l
}
