package tree_test

import (
	"fmt"
	"maps"
	"slices"
	"strings"
	"testing"

	"hermitage/api"
	"hermitage/name"
	"hermitage/tree"
)

// flat is a volume as the tests keep it, apart from the program's way: what each path names, and the files without their links. The root's path is "" here.
type flat struct {
	head  api.Vol
	at    map[string]int
	files map[int]api.File
}

func flatten(v api.Vol) flat {
	f := flat{head: v, at: map[string]int{"": 1}, files: map[int]api.File{}}
	f.head.Files = nil
	lists := map[int][]api.Link{}
	for _, x := range v.Files {
		lists[x.ID] = x.List
		x.List = nil
		f.files[x.ID] = x
	}
	for todo := []string{""}; len(todo) > 0; todo = todo[1:] {
		for _, l := range lists[f.at[todo[0]]] {
			p := todo[0] + "/" + l.Name
			f.at[p] = l.ID
			todo = append(todo, p)
		}
	}
	return f
}

func (f flat) clone() flat {
	return flat{f.head, maps.Clone(f.at), maps.Clone(f.files)}
}

// vol lays the volume out anew.
func (f flat) vol() api.Vol {
	lists := map[int][]api.Link{}
	for _, p := range slices.Sorted(maps.Keys(f.at)) {
		if p != "" {
			up, last := cut(p)
			lists[f.at[up]] = append(lists[f.at[up]], api.Link{Name: last, ID: f.at[p]})
		}
	}
	v := f.head
	for _, id := range slices.Sorted(maps.Keys(f.files)) {
		x := f.files[id]
		x.List = lists[id]
		slices.SortFunc(x.List, func(a, b api.Link) int { return strings.Compare(a.Name, b.Name) })
		v.Files = append(v.Files, x)
	}
	return v
}

func cut(p string) (up, last string) {
	i := strings.LastIndex(p, "/")
	return p[:i], p[i+1:]
}

func (f flat) isDir(p string) bool {
	return f.files[f.at[p]].Dir
}

func (f flat) has(p string) bool {
	_, is := f.at[p]
	return is
}

func (f flat) many(id int) (n int) {
	for p, x := range f.at {
		if p != "" && x == id {
			n++
		}
	}
	return n
}

// linksIn is how many links the directory has.
func (f flat) linksIn(dir string) (n int) {
	for p := range f.at {
		if p != "" {
			if up, _ := cut(p); up == dir {
				n++
			}
		}
	}
	return n
}

// find tells what the document asks of Find: by the first part of the path that is not there.
func (f flat) find(p string) api.Errno {
	for i := 1; i <= len(p); i++ {
		if i < len(p) && p[i] != '/' {
			continue
		}
		up, _ := cut(p[:i])
		if !f.isDir(up) {
			return api.ErrFile
		}
		if !f.has(p[:i]) {
			return api.ErrNone
		}
	}
	return api.OK
}

// vacant tells Make's errors up to ErrThere.
func (f flat) vacant(p string) api.Errno {
	if p == "" {
		return api.ErrThere
	}
	up, _ := cut(p)
	if e := f.find(up); e != api.OK {
		return e
	}
	if !f.isDir(up) {
		return api.ErrFile
	}
	if f.has(p) {
		return api.ErrThere
	}
	return api.OK
}

// op is one: its letter, its paths (the second one only where it has one).
type op struct{ kind, p, q string }

func (o op) two() bool {
	return o.kind == "link" || o.kind == "rename"
}

// do lets the program do it.
func do(v api.Vol, o op) (api.Vol, api.Errno) {
	switch o.kind {
	case "make":
		return tree.Make(v, o.p)
	case "dir":
		return tree.Dir(v, o.p)
	case "link":
		return tree.Link(v, o.p, o.q)
	case "unlink":
		return tree.Unlink(v, o.p)
	case "rmdir":
		return tree.Rmdir(v, o.p)
	}
	return tree.Rename(v, o.p, o.q)
}

// wanted is what the document asks for.
func wanted(v api.Vol, o op) (api.Vol, api.Errno) {
	if name.Path(o.p) != api.OK || o.two() && name.Path(o.q) != api.OK {
		return api.Vol{}, api.ErrForm
	}
	if v.Snap {
		return api.Vol{}, api.ErrState
	}
	f := flatten(v).clone()
	p, q := strings.TrimSuffix(o.p, "/"), strings.TrimSuffix(o.q, "/")
	e := api.OK
	switch o.kind {
	case "make", "dir":
		e = f.create(p, o.kind == "dir")
	case "link":
		e = f.link(p, q)
	case "unlink":
		e = f.unlink(p)
	case "rmdir":
		e = f.rmdir(p)
	case "rename":
		e = f.rename(p, q)
	}
	if e != api.OK {
		return api.Vol{}, e
	}
	return f.vol(), api.OK
}

func (f *flat) create(p string, dir bool) api.Errno {
	if e := f.vacant(p); e != api.OK {
		return e
	}
	up, _ := cut(p)
	if len(f.files) == api.MaxFiles || f.linksIn(up) == api.MaxLinks || f.head.Next == api.MaxNum {
		return api.ErrLimit
	}
	f.at[p] = f.head.Next
	f.files[f.head.Next] = api.File{ID: f.head.Next, Dir: dir}
	f.head.Next++
	return api.OK
}

func (f *flat) link(p, q string) api.Errno {
	if e := f.find(p); e != api.OK {
		return e
	}
	if f.isDir(p) {
		return api.ErrDir
	}
	if e := f.vacant(q); e != api.OK {
		return e
	}
	if up, _ := cut(q); f.linksIn(up) == api.MaxLinks {
		return api.ErrLimit
	}
	f.at[q] = f.at[p]
	return api.OK
}

func (f *flat) unlink(p string) api.Errno {
	if p == "" {
		return api.ErrDir
	}
	if e := f.find(p); e != api.OK {
		return e
	}
	if f.isDir(p) {
		return api.ErrDir
	}
	if f.many(f.at[p]) == 1 {
		delete(f.files, f.at[p])
	}
	delete(f.at, p)
	return api.OK
}

func (f *flat) rmdir(p string) api.Errno {
	if p == "" {
		return api.ErrUsed
	}
	if e := f.find(p); e != api.OK {
		return e
	}
	if !f.isDir(p) {
		return api.ErrFile
	}
	if f.linksIn(p) > 0 {
		return api.ErrUsed
	}
	delete(f.files, f.at[p])
	delete(f.at, p)
	return api.OK
}

func (f *flat) rename(p, q string) api.Errno {
	if p == "" || q == "" {
		return api.ErrUsed
	}
	if e := f.find(p); e != api.OK || p == q {
		return e
	}
	if f.isDir(p) && strings.HasPrefix(q, p+"/") {
		return api.ErrUsed
	}
	if e := f.vacant(q); e != api.OK {
		return e
	}
	from, _ := cut(p)
	to, _ := cut(q)
	if from != to && f.linksIn(to) == api.MaxLinks {
		return api.ErrLimit
	}
	moved := map[string]int{}
	for x, id := range f.at {
		if x == p || strings.HasPrefix(x, p+"/") {
			x = q + x[len(p):]
		}
		if strings.Count(x, "/") > api.MaxDepth {
			return api.ErrLimit
		}
		moved[x] = id
	}
	f.at = moved
	return api.OK
}

// told is all of a volume as a text; a nil list and an empty one are one.
func told(v api.Vol) string {
	s := fmt.Sprint(v.ID, " ", v.From, " ", v.Snap, " ", v.Next, ":")
	for _, f := range v.Files {
		s += toldFile(f)
	}
	return s
}

func toldFile(f api.File) string {
	return fmt.Sprint(" ", f.ID, " ", f.Dir, " ", f.Size, " ", f.Blocks, f.List, ";")
}

// twin is a copy of all of it.
func twin(v api.Vol) api.Vol {
	v.Files = slices.Clone(v.Files)
	for i, f := range v.Files {
		v.Files[i].Blocks, v.Files[i].List = slices.Clone(f.Blocks), slices.Clone(f.List)
	}
	return v
}

// built is a volume that came of ops: each is a letter and its paths.
func built(t *testing.T, ops ...string) api.Vol {
	t.Helper()
	v, e := tree.New(7)
	if e != api.OK {
		t.Fatalf("New: %v", e)
	}
	for _, s := range ops {
		w := append(strings.Fields(s), "")
		v, e = do(v, op{w[0], w[1], w[2]})
		if e != api.OK {
			t.Fatalf("%s: %v", s, e)
		}
	}
	return v
}

// dice throws numbers that are always the same.
type dice uint64

func (d *dice) below(n int) int {
	*d = *d*6364136223846793005 + 1442695040888963407
	return int(*d >> 33 % dice(n))
}

func pick[T any](d *dice, l ...T) T {
	return l[d.below(len(l))]
}
