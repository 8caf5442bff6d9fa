package tree

import (
	"slices"

	"hermitage/api"
	"hermitage/name"
)

func (v *volume) create(p string, dir bool) api.Errno {
	at, e := v.vacant(p)
	if e != api.OK {
		return e
	}
	if len(v.Files) >= api.MaxFiles || at.isFull() || v.Next >= api.MaxNum {
		return api.ErrLimit
	}
	// The link first: a longer list of files lies elsewhere, and the place would still be in the old one.
	at.put(v.Next)
	v.Files = append(v.Files, api.File{ID: v.Next, Dir: dir})
	v.Next++
	return api.OK
}

func (v *volume) link(p string, q string) api.Errno {
	f, e := v.find(p)
	if e != api.OK {
		return e
	}
	if f.Dir {
		return api.ErrDir
	}
	to, e := v.vacant(q)
	if e != api.OK {
		return e
	}
	if to.isFull() {
		return api.ErrLimit
	}
	to.put(f.ID)
	return api.OK
}

// unlink has no look of its own at the root: that is a directory.
func (v *volume) unlink(p string) api.Errno {
	f, e := v.find(p)
	if e != api.OK {
		return e
	}
	if f.Dir {
		return api.ErrDir
	}
	return v.take(p)
}

func (v *volume) rmdir(p string) api.Errno {
	if p == root {
		return api.ErrUsed
	}
	f, e := v.find(p)
	if e != api.OK {
		return e
	}
	if !f.Dir {
		return api.ErrFile
	}
	if len(f.List) > 0 {
		return api.ErrUsed
	}
	return v.take(p)
}

// take clears the place of p, and takes away what nothing names any more.
func (v *volume) take(p string) api.Errno {
	at, e := v.place(p)
	if e != api.OK {
		return e
	}
	id, _ := at.linked(at.last)
	at.clear()
	if v.links(id) == 0 {
		v.Files = slices.DeleteFunc(v.Files, func(f api.File) bool { return f.ID == id })
	}
	return api.OK
}

func (v *volume) rename(p string, q string) api.Errno {
	if p == root || q == root {
		return api.ErrUsed
	}
	f, e := v.find(p)
	if e != api.OK || p == q {
		return e
	}
	under, e := name.Under(p, q)
	if e != api.OK {
		return e
	}
	if f.Dir && under {
		return api.ErrUsed
	}
	from, e := v.place(p)
	if e != api.OK {
		return e
	}
	to, e := v.vacant(q)
	if e != api.OK {
		return e
	}
	if to.isFull() && to.ID != from.ID || v.tooDeep(f, q) {
		return api.ErrLimit
	}
	from.clear()
	to.put(f.ID)
	return api.OK
}

// tooDeep tells whether a path would have too many names, if q named n.
func (v *volume) tooDeep(n node, q string) bool {
	names, _ := name.Split(q)
	_, deep := v.measure(n)
	return len(names)+deep > api.MaxDepth
}
