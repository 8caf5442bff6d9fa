package tree

import (
	"slices"

	"hermitage/api"
	"hermitage/name"
)

const (
	rootID = 1
	root   = "/"
)

// volume is one that can be asked about itself, and changed.
type volume struct {
	api.Vol
}

// open is a copy of a volume, if it and all the paths may be.
func open(v api.Vol, paths ...string) (*volume, api.Errno) {
	if e := Check(v); e != api.OK {
		return nil, e
	}
	for _, p := range paths {
		if e := name.Path(p); e != api.OK {
			return nil, e
		}
	}
	return &volume{copyOf(v)}, api.OK
}

// change is the volume behind an act: that is done to a copy, so one that errs half-way leaves nothing behind.
func change(v api.Vol, act func(w *volume) api.Errno, paths ...string) (api.Vol, api.Errno) {
	w, e := open(v, paths...)
	if e != api.OK {
		return api.Vol{}, e
	}
	if w.Snap {
		return api.Vol{}, api.ErrState
	}
	if e := act(w); e != api.OK {
		return api.Vol{}, e
	}
	return w.Vol, api.OK
}

func copyOf(v api.Vol) api.Vol {
	v.Files = slices.Clone(v.Files)
	for i, f := range v.Files {
		v.Files[i].Blocks = slices.Clone(f.Blocks)
		v.Files[i].List = slices.Clone(f.List)
	}
	return v
}

// within tells whether each of the numbers is from least to most.
func within(least int, most int, l ...int) bool {
	for _, n := range l {
		if n < least || n > most {
			return false
		}
	}
	return true
}

// mayBe asks in an order: each part leans on what those ahead of it have found.
func (v *volume) mayBe() bool {
	return v.numbersMayBe() && v.filesMayBe() && v.linksMayBe() && v.pathsMayBe()
}

func (v *volume) numbersMayBe() bool {
	return within(0, api.MaxNum, v.ID, v.From, v.Next) && (v.Snap || v.From == 0)
}

func (v *volume) filesMayBe() bool {
	if !within(1, api.MaxFiles, len(v.Files)) || v.Files[0].ID != rootID || !v.Files[0].Dir {
		return false
	}
	last := 0
	for i := range v.Files {
		f := node{&v.Files[i]}
		if !within(last+1, v.Next-1, f.ID) || !f.mayBe() {
			return false
		}
		last = f.ID
	}
	return true
}

func (v *volume) linksMayBe() bool {
	for _, f := range v.Files {
		for _, l := range f.List {
			if v.index(l.ID) < 0 {
				return false
			}
		}
	}
	for _, f := range v.Files {
		if !mayHave(f, v.links(f.ID)) {
			return false
		}
	}
	return true
}

// mayHave tells whether a file may be named by so many links.
func mayHave(f api.File, links int) bool {
	switch {
	case f.ID == rootID:
		return links == 0
	case f.Dir:
		return links == 1
	default:
		return links >= 1
	}
}

// pathsMayBe counts directories only: where all of those are reached, all files are, too, as each is named in one.
func (v *volume) pathsMayBe() bool {
	all := 0
	for _, f := range v.Files {
		if f.Dir {
			all++
		}
	}
	reached, deep := v.measure(v.file(rootID))
	return reached == all && deep <= api.MaxDepth
}

// measure tells how many directories there are from n down, and how many names the longest way down has.
// It ends: as each directory is named once, and the root never, no way down from the root leads round.
func (v *volume) measure(n node) (dirs int, deep int) {
	if !n.Dir {
		return 0, 0
	}
	dirs = 1
	for _, l := range n.List {
		more, below := v.measure(v.file(l.ID))
		dirs += more
		deep = max(deep, below+1)
	}
	return dirs, deep
}

func (v *volume) links(id int) int {
	many := 0
	for i := range v.Files {
		many += node{&v.Files[i]}.links(id)
	}
	return many
}

// index is where the file with that ID stands: below 0, if it is none's.
func (v *volume) index(id int) int {
	return slices.IndexFunc(v.Files, func(f api.File) bool { return f.ID == id })
}

// file is the one with that ID, which must be there: a link's is.
func (v *volume) file(id int) node {
	return node{&v.Files[v.index(id)]}
}

func (v *volume) find(p string) (node, api.Errno) {
	names, e := name.Split(p)
	if e != api.OK {
		return node{}, e
	}
	at := v.file(rootID)
	for _, s := range names {
		if !at.Dir {
			return node{}, api.ErrFile
		}
		id, is := at.linked(s)
		if !is {
			return node{}, api.ErrNone
		}
		at = v.file(id)
	}
	return at, api.OK
}

// place is where p's last name stands, or might stand. The root has no place.
func (v *volume) place(p string) (place, api.Errno) {
	up, last, e := name.Parent(p)
	if e != api.OK {
		return place{}, e
	}
	dir, e := v.find(up)
	if e != api.OK {
		return place{}, e
	}
	if !dir.Dir {
		return place{}, api.ErrFile
	}
	return place{dir, last}, api.OK
}

// vacant is p's place, if nothing has it.
func (v *volume) vacant(p string) (place, api.Errno) {
	if p == root {
		return place{}, api.ErrThere
	}
	at, e := v.place(p)
	if e != api.OK {
		return place{}, e
	}
	if at.isTaken() {
		return place{}, api.ErrThere
	}
	return at, api.OK
}
