package tree_test

import (
	"fmt"
	"maps"
	"math"
	"slices"
	"strings"
	"testing"

	"hermitage/api"
	"hermitage/tree"
)

// P3.1: New.
func TestNew(t *testing.T) {
	for _, id := range []int{1, 2, 1 << 20, api.MaxNum} {
		v, e := tree.New(id)
		if e != api.OK || told(v) != told(api.Vol{ID: id, Files: []api.File{{ID: 1, Dir: true}}, Next: 2}) || tree.Check(v) != api.OK {
			t.Errorf("%d: %s, %v", id, told(v), e)
		}
	}
	for _, id := range []int{0, -1, api.MaxNum + 1, math.MaxInt, math.MinInt, 1 << 32} {
		if v, e := tree.New(id); e != api.ErrForm || told(v) != told(api.Vol{}) {
			t.Errorf("%d: %s, %v", id, told(v), e)
		}
	}
	a, _ := tree.New(1)
	a.Files[0].ID = 9
	_ = append(a.Files[:1], api.File{ID: 3})
	if b, _ := tree.New(1); tree.Check(b) != api.OK {
		t.Errorf("shared")
	}
}

// P3.2: the document's example.
func TestExample(t *testing.T) {
	v, _ := tree.New(1)
	w, e := tree.Make(v, "/a")
	if e != api.OK || told(w) != told(api.Vol{ID: 1, Files: []api.File{{ID: 1, Dir: true, List: []api.Link{{Name: "a", ID: 2}}}, {ID: 2}}, Next: 3}) {
		t.Errorf("%s, %v", told(w), e)
	}
}

// P3.1: Find and Links, of a volume and of a snapshot.
func TestFind(t *testing.T) {
	v := sample(t)
	for _, snap := range []bool{false, true} {
		v.Snap = snap
		if snap {
			v.From = 3
		}
		for p, want := range map[string]int{"/": 0, "/d": 1, "/a": 2, "/d/b": 2, "/d/e": 3, "/d/e/f": 4, "/d/e/g": 5} {
			if f, e := tree.Find(v, p); e != api.OK || toldFile(f) != toldFile(v.Files[want]) {
				t.Errorf("%s: %s, %v", p, toldFile(f), e)
			}
		}
		for p, want := range map[string]api.Errno{
			"/b": api.ErrNone, "/b/a": api.ErrNone, "/d/a": api.ErrNone, "/d/e/g/x": api.ErrNone, "/d/e/g/x/y": api.ErrNone, "/d/a/e/f": api.ErrNone, "/dd": api.ErrNone,
			"/a/a": api.ErrFile, "/a/b/c": api.ErrFile, "/d/b/b": api.ErrFile, "/d/e/f/f/f": api.ErrFile,
			"": api.ErrForm, "a": api.ErrForm, "/a/": api.ErrForm, "//": api.ErrForm, "/d/../a": api.ErrForm, "/A": api.ErrForm, "/a/a/a/a/a/a": api.ErrForm, "/abcdefghi": api.ErrForm,
		} {
			if f, e := tree.Find(v, p); e != want || toldFile(f) != toldFile(api.File{}) {
				t.Errorf("%q: %s, %v: not %v", p, toldFile(f), e, want)
			}
		}
		for id, want := range map[int]int{1: 0, 2: 1, 3: 2, 4: 1, 5: 1, 6: 1, 7: 0, 0: 0, -1: 0, math.MaxInt: 0, math.MinInt: 0} {
			if n, e := tree.Links(v, id); n != want || e != api.OK {
				t.Errorf("%d: %d, %v", id, n, e)
			}
		}
	}
}

// somePath is a path, mostly of what is there, or near it; now and then it is none.
func somePath(d *dice, v api.Vol) string {
	all := slices.Sorted(maps.Keys(flatten(v).at))
	p := pick(d, all...)
	names := []string{"a", "b", "c", "d", "e", "f", "g", "h", "i", "abcdefgh", "0.-_"}
	switch d.below(40) {
	case 0:
		return pick(d, "", "a", "/a/", "//", "/A", "/..", "/abcdefghi", "/a/a/a/a/a/a", "/a\x00")
	case 1, 2, 3, 4:
		p = ""
		for range d.below(4) {
			p += "/" + pick(d, names...)
		}
	case 5, 6:
		p += "/" + pick(d, names...) + "/" + pick(d, names...)
	default:
		if d.below(2) == 0 {
			p += "/" + pick(d, names...)
		}
	}
	if p == "" && d.below(3) > 0 {
		p = "/" + pick(d, names...)
	} else if p == "" {
		p = "/"
	}
	return p
}

// filePaths is all paths of what is no directory.
func filePaths(v api.Vol) (l []string) {
	f := flatten(v)
	for _, p := range slices.Sorted(maps.Keys(f.at)) {
		if !f.isDir(p) {
			l = append(l, p)
		}
	}
	return l
}

func someOp(d *dice, v api.Vol) op {
	o := op{pick(d, "make", "make", "dir", "dir", "link", "link", "unlink", "rmdir", "rename", "rename"), somePath(d, v), ""}
	if o.two() {
		o.q = somePath(d, v)
	}
	if o.kind == "rename" && d.below(20) == 0 {
		o.q = o.p
	}
	if files := filePaths(v); o.kind == "link" && len(files) > 0 && d.below(2) == 0 {
		o.p = pick(d, files...)
	}
	return o
}

// grown lets some file come to have bytes, and sometimes Next jump.
func grown(d *dice, v api.Vol) api.Vol {
	v = twin(v)
	f := &v.Files[d.below(len(v.Files))]
	if !f.Dir {
		f.Size = d.below(api.MaxText + 1)
		f.Blocks = nil
		for n := 0; n < f.Size; n += api.Sector {
			f.Blocks = append(f.Blocks, d.below(api.MaxNum))
		}
	}
	if d.below(150) == 0 {
		v.Next = min(api.MaxNum, max(v.Next, pick(d, api.MaxNum, api.MaxNum-1, v.Next+d.below(9))))
	}
	return v
}

// seen counts errors by op.
type seen map[string]map[api.Errno]int

func (s seen) add(kind string, e api.Errno) {
	if s[kind] == nil {
		s[kind] = map[api.Errno]int{}
	}
	s[kind][e]++
}

// P3.2, P3.3: long rows of ops against the document's words, volume by volume; each error that an op has is met.
func TestRows(t *testing.T) {
	met := seen{}
	for row := range 80 {
		d := dice(row)
		v, _ := tree.New(1 + row)
		for range 500 {
			if d.below(8) == 0 {
				v = grown(&d, v)
			}
			asked := v
			if d.below(30) == 0 {
				asked.Snap, asked.From = true, d.below(4)
			}
			o := someOp(&d, v)
			was := told(asked)
			want, wantE := wanted(asked, o)
			x, e := do(asked, o)
			met.add(o.kind, e)
			if e != wantE || told(x) != told(want) {
				t.Fatalf("%v of %s: %v, %s: not %v, %s", o, was, e, told(x), wantE, told(want))
			}
			if told(asked) != was {
				t.Fatalf("%v of %s: changed to %s", o, was, told(asked))
			}
			if e == api.OK {
				if !mayBe(x) || tree.Check(x) != api.OK {
					t.Fatalf("%v of %s: %s may not be", o, was, told(x))
				}
				v = x
			}
		}
	}
	for kind, l := range map[string][]api.Errno{
		"make":   {api.OK, api.ErrForm, api.ErrState, api.ErrThere, api.ErrNone, api.ErrFile, api.ErrLimit},
		"dir":    {api.OK, api.ErrForm, api.ErrState, api.ErrThere, api.ErrNone, api.ErrFile, api.ErrLimit},
		"link":   {api.OK, api.ErrForm, api.ErrState, api.ErrNone, api.ErrFile, api.ErrDir, api.ErrThere, api.ErrLimit},
		"unlink": {api.OK, api.ErrForm, api.ErrState, api.ErrDir, api.ErrNone, api.ErrFile},
		"rmdir":  {api.OK, api.ErrForm, api.ErrState, api.ErrUsed, api.ErrNone, api.ErrFile},
		"rename": {api.OK, api.ErrForm, api.ErrState, api.ErrUsed, api.ErrNone, api.ErrFile, api.ErrThere, api.ErrLimit},
	} {
		for _, e := range l {
			if met[kind][e] == 0 {
				t.Errorf("%s: %v was not met", kind, e)
			}
		}
		if len(met[kind]) != len(l) {
			t.Errorf("%s: %v", kind, met[kind])
		}
	}
}

// P3.2: the errors in the document's order, where several apply.
func TestOrder(t *testing.T) {
	v := built(t, "dir /d", "make /a", "link /a /d/b", "dir /d/e", "make /d/e/f")
	full := built(t, "dir /0", "dir /1", "dir /2", "dir /3", "dir /4", "make /5", "make /6", "dir /7", "make /0/x")
	last := twin(v)
	last.Next = api.MaxNum
	for i, c := range []struct {
		v    api.Vol
		o    op
		want api.Errno
	}{
		{v, op{"make", "/", ""}, api.ErrThere}, {full, op{"dir", "/", ""}, api.ErrThere}, {last, op{"make", "/", ""}, api.ErrThere},
		{full, op{"make", "/5", ""}, api.ErrThere}, {full, op{"dir", "/5", ""}, api.ErrThere}, {full, op{"make", "/5/x", ""}, api.ErrFile}, {full, op{"make", "/5/x/y", ""}, api.ErrFile}, {full, op{"dir", "/8/x", ""}, api.ErrNone}, {full, op{"make", "/8", ""}, api.ErrLimit},
		{last, op{"make", "/a", ""}, api.ErrThere}, {last, op{"make", "/a/x", ""}, api.ErrFile}, {last, op{"make", "/z/x", ""}, api.ErrNone}, {last, op{"make", "/z", ""}, api.ErrLimit}, {last, op{"dir", "/z", ""}, api.ErrLimit},
		{v, op{"link", "/z", "/"}, api.ErrNone}, {v, op{"link", "/a/z", "/"}, api.ErrFile}, {v, op{"link", "/d", "/"}, api.ErrDir}, {v, op{"link", "/", "/"}, api.ErrDir}, {v, op{"link", "/", "/z/z"}, api.ErrDir}, {v, op{"link", "/d", "/d/z"}, api.ErrDir}, {v, op{"link", "/z", "/a/z"}, api.ErrNone},
		{v, op{"link", "/a", "/"}, api.ErrThere}, {v, op{"link", "/a", "/a"}, api.ErrThere}, {v, op{"link", "/a", "/d"}, api.ErrThere}, {v, op{"link", "/a", "/a/x"}, api.ErrFile}, {v, op{"link", "/a", "/x/a"}, api.ErrNone}, {full, op{"link", "/5", "/6"}, api.ErrThere}, {full, op{"link", "/5", "/8"}, api.ErrLimit}, {last, op{"link", "/a", "/z"}, api.OK},
		{v, op{"unlink", "/", ""}, api.ErrDir}, {v, op{"unlink", "/d", ""}, api.ErrDir}, {v, op{"unlink", "/d/e", ""}, api.ErrDir}, {v, op{"unlink", "/a/d", ""}, api.ErrFile}, {v, op{"unlink", "/d/a", ""}, api.ErrNone},
		{v, op{"rmdir", "/", ""}, api.ErrUsed}, {built(t), op{"rmdir", "/", ""}, api.ErrUsed}, {v, op{"rmdir", "/a", ""}, api.ErrFile}, {v, op{"rmdir", "/a/d", ""}, api.ErrFile}, {v, op{"rmdir", "/z", ""}, api.ErrNone}, {v, op{"rmdir", "/d/e", ""}, api.ErrUsed},
		{v, op{"rename", "/", "/"}, api.ErrUsed}, {v, op{"rename", "/", "/z"}, api.ErrUsed}, {v, op{"rename", "/z", "/"}, api.ErrUsed}, {v, op{"rename", "/a/z", "/"}, api.ErrUsed}, {v, op{"rename", "/z", "/z"}, api.ErrNone}, {v, op{"rename", "/a/z", "/a/z"}, api.ErrFile},
		{v, op{"rename", "/a", "/a"}, api.OK}, {full, op{"rename", "/5", "/5"}, api.OK}, {v, op{"rename", "/d/e/f", "/d/e/f"}, api.OK}, {v, op{"rename", "/d", "/d"}, api.OK},
		{v, op{"rename", "/d", "/d/z"}, api.ErrUsed}, {v, op{"rename", "/d", "/d/z/z"}, api.ErrUsed}, {v, op{"rename", "/d", "/d/b"}, api.ErrUsed}, {v, op{"rename", "/d", "/d/b/z"}, api.ErrUsed}, {v, op{"rename", "/d", "/dd"}, api.OK}, {v, op{"rename", "/a", "/a/z"}, api.ErrFile}, {v, op{"rename", "/a", "/a/z/z"}, api.ErrFile},
		{v, op{"rename", "/d/e", "/d"}, api.ErrThere}, {v, op{"rename", "/d/b", "/a"}, api.ErrThere}, {v, op{"rename", "/a", "/d/b"}, api.ErrThere}, {v, op{"rename", "/d", "/a"}, api.ErrThere}, {v, op{"rename", "/d", "/a/b"}, api.ErrFile}, {v, op{"rename", "/d", "/z/b"}, api.ErrNone}, {full, op{"rename", "/0/x", "/5"}, api.ErrThere}, {full, op{"rename", "/0/x", "/8"}, api.ErrLimit}, {full, op{"rename", "/5", "/8"}, api.OK}, {full, op{"rename", "/7", "/8"}, api.OK},
	} {
		want, e := wanted(c.v, c.o)
		if e != c.want {
			t.Fatalf("%d: the tests' own words say %v", i, e)
		}
		if x, e := do(c.v, c.o); e != c.want || told(x) != told(want) {
			t.Errorf("%d: %v: %v, %s: not %v", i, c.o, e, told(x), c.want)
		}
	}
}

// P3.2: ErrForm, whichever path may not be, ahead of ErrState; that ahead of all others.
func TestFormAndState(t *testing.T) {
	kinds := []string{"make", "dir", "link", "unlink", "rmdir", "rename"}
	v := sample(t)
	snap := twin(v)
	snap.Snap, snap.From = true, 3
	for _, x := range []api.Vol{v, snap} {
		for _, bad := range []string{"", "a", "/a/", "//", "/..", "/A", "/a/a/a/a/a/a", "/abcdefghi", "/a\xff", strings.Repeat("/a", 1<<20)} {
			for _, kind := range kinds {
				for _, good := range []string{"/", "/a", "/d", "/z", "/a/z", "/z/z"} {
					pairs := []op{{kind, bad, good}, {kind, bad, bad}}
					if pairs[0].two() {
						pairs = append(pairs, op{kind, good, bad})
					}
					for _, o := range pairs {
						if y, e := do(x, o); e != api.ErrForm || told(y) != told(api.Vol{}) {
							t.Errorf("%s: %v", kind, e)
						}
					}
				}
			}
		}
	}
	paths := []string{"/", "/a", "/d", "/d/e/g", "/z", "/a/z", "/z/z"}
	for _, kind := range kinds {
		for _, p := range paths {
			for _, q := range paths {
				if y, e := do(snap, op{kind, p, q}); e != api.ErrState || told(y) != told(api.Vol{}) {
					t.Errorf("%s(%q, %q): %v", kind, p, q, e)
				}
			}
		}
	}
}

// P3.2: as many files as may be, and no one more; a link needs none.
func TestMaxFiles(t *testing.T) {
	v := built(t, "dir /a", "dir /b", "make /f")
	for i := 0; len(v.Files) < api.MaxFiles; i++ {
		var e api.Errno
		v, e = tree.Make(v, fmt.Sprint([]string{"/a/", "/b/"}[i/7], i))
		if e != api.OK || tree.Check(v) != api.OK {
			t.Fatalf("%d: %v", i, e)
		}
	}
	for _, kind := range []string{"make", "dir"} {
		for _, p := range []string{"/z", "/a/z", "/b/z"} {
			if x, e := do(v, op{kind, p, ""}); e != api.ErrLimit || len(x.Files) != 0 {
				t.Errorf("%s: %v", p, e)
			}
		}
		if _, e := do(v, op{kind, "/f", ""}); e != api.ErrThere {
			t.Errorf("%v", e)
		}
	}
	w, e := tree.Link(v, "/f", "/z")
	if e != api.OK || len(w.Files) != api.MaxFiles || tree.Check(w) != api.OK {
		t.Fatalf("%v", e)
	}
	if w, e = tree.Unlink(w, "/f"); e != api.OK || len(w.Files) != api.MaxFiles {
		t.Fatalf("%d, %v", len(w.Files), e)
	}
	if w, e = tree.Unlink(w, "/z"); e != api.OK || len(w.Files) != api.MaxFiles-1 {
		t.Fatalf("%d, %v", len(w.Files), e)
	}
	w, e = tree.Dir(w, "/z")
	if f, g := tree.Find(w, "/z"); e != api.OK || g != api.OK || f.ID != v.Next || !f.Dir || w.Next != v.Next+1 {
		t.Errorf("%v, %v, %v", e, g, f)
	}
}

// P3.2: as many links in one directory as may be, and no one more; a link within it may have another name.
func TestMaxLinks(t *testing.T) {
	v := built(t, "dir /d", "make /f", "dir /e")
	for i := range api.MaxLinks {
		var e api.Errno
		if v, e = tree.Link(v, "/f", fmt.Sprint("/d/", i)); e != api.OK {
			t.Fatalf("%d: %v", i, e)
		}
	}
	for _, o := range []op{{"make", "/d/z", ""}, {"dir", "/d/z", ""}, {"link", "/f", "/d/z"}, {"link", "/d/3", "/d/z"}, {"rename", "/f", "/d/z"}, {"rename", "/e", "/d/z"}} {
		if x, e := do(v, o); e != api.ErrLimit || told(x) != told(api.Vol{}) {
			t.Errorf("%v: %v", o, e)
		}
	}
	if n, e := tree.Links(v, 3); n != api.MaxLinks+1 || e != api.OK {
		t.Errorf("%d, %v", n, e)
	}
	w, e := tree.Rename(v, "/d/3", "/d/z")
	if f, _ := tree.Find(w, "/d"); e != api.OK || tree.Check(w) != api.OK || len(f.List) != api.MaxLinks || f.List[api.MaxLinks-1].Name != "z" {
		t.Errorf("%v, %v", e, f)
	}
	if w, e = tree.Rename(v, "/d/3", "/e/3"); e != api.OK || tree.Check(w) != api.OK {
		t.Fatalf("%v", e)
	}
	if w, e = tree.Make(w, "/d/z"); e != api.OK || tree.Check(w) != api.OK {
		t.Errorf("%v", e)
	}
}

// P3.2: as deep as may be: a new path cannot be too long, a renamed directory's can.
func TestMaxDepth(t *testing.T) {
	v := built(t, "dir /a", "dir /a/b", "dir /a/b/c", "make /a/b/c/x", "dir /1", "dir /1/2", "dir /1/2/3", "dir /1/2/3/4", "dir /e", "make /f")
	for i, c := range []struct {
		p, q string
		want api.Errno
	}{
		{"/a", "/1/a", api.OK}, {"/a", "/1/2/a", api.ErrLimit}, {"/a", "/1/2/3/4/a", api.ErrLimit}, {"/a/b", "/1/2/b", api.OK}, {"/a/b", "/1/2/3/b", api.ErrLimit}, {"/a/b/c", "/1/2/3/c", api.OK}, {"/a/b/c", "/1/2/3/4/c", api.ErrLimit}, {"/a/b/c/x", "/1/2/3/4/x", api.OK},
		{"/e", "/1/2/3/4/5", api.OK}, {"/f", "/1/2/3/4/5", api.OK}, {"/1", "/a/b", api.ErrThere}, {"/1", "/e/1", api.OK}, {"/1", "/a/b/1", api.ErrLimit}, {"/1/2/3/4", "/4", api.OK}, {"/a", "/z", api.OK},
	} {
		x, e := tree.Rename(v, c.p, c.q)
		want, _ := wanted(v, op{"rename", c.p, c.q})
		if e != c.want || told(x) != told(want) || e == api.OK && tree.Check(x) != api.OK {
			t.Errorf("%d: %v, %s", i, e, told(x))
		}
	}
	w, e := tree.Dir(v, "/1/2/3/4/5")
	if e != api.OK || tree.Check(w) != api.OK {
		t.Fatalf("%v", e)
	}
	if _, e := tree.Make(w, "/1/2/3/4/5/6"); e != api.ErrForm {
		t.Errorf("%v", e)
	}
	if _, e := tree.Rename(w, "/1", "/e/1"); e != api.ErrLimit {
		t.Errorf("%v", e)
	}
}

// P3.2: the last ID that may be; an ID does not come again.
func TestMaxNum(t *testing.T) {
	v := built(t, "make /a")
	v.Next = api.MaxNum - 1
	w, e := tree.Dir(v, "/b")
	if f, _ := tree.Find(w, "/b"); e != api.OK || f.ID != api.MaxNum-1 || w.Next != api.MaxNum || tree.Check(w) != api.OK {
		t.Fatalf("%v, %s", e, told(w))
	}
	for _, o := range []op{{"make", "/c", ""}, {"dir", "/c", ""}, {"make", "/b/c", ""}} {
		if x, e := do(w, o); e != api.ErrLimit || told(x) != told(api.Vol{}) {
			t.Errorf("%v: %v", o, e)
		}
	}
	for _, o := range []op{{"link", "/a", "/c"}, {"rename", "/a", "/c"}, {"unlink", "/a", ""}, {"rmdir", "/b", ""}} {
		if x, e := do(w, o); e != api.OK || x.Next != api.MaxNum || tree.Check(x) != api.OK {
			t.Errorf("%v: %v", o, e)
		}
	}
	u := built(t, "make /a", "unlink /a", "dir /a", "rmdir /a", "make /a")
	if f, _ := tree.Find(u, "/a"); f.ID != 4 || f.Dir || len(u.Files) != 2 || u.Next != 5 {
		t.Errorf("%s", told(u))
	}
}

// P3.2: a file with more than one link: it goes with the last one, and keeps its bytes till then.
func TestManyLinks(t *testing.T) {
	v := built(t, "make /a", "dir /d", "link /a /b", "link /b /d/c")
	v.Files[1].Size, v.Files[1].Blocks = api.MaxText, []int{6, 5, 4, 3, 2, 1, 0}
	whole := toldFile(v.Files[1])
	for i, p := range []string{"/b", "/a", "/d/c"} {
		if f, e := tree.Find(v, p); e != api.OK || toldFile(f) != whole {
			t.Errorf("%s: %s, %v", p, toldFile(f), e)
		}
		if n, _ := tree.Links(v, 2); n != 3-i {
			t.Errorf("%d", n)
		}
		var e api.Errno
		if v, e = tree.Unlink(v, p); e != api.OK {
			t.Fatalf("%v", e)
		}
		if _, e = tree.Find(v, p); e != api.ErrNone {
			t.Errorf("%s: %v", p, e)
		}
	}
	if len(v.Files) != 2 || v.Next != 4 {
		t.Errorf("%s", told(v))
	}
}

// P3.2: a path renamed to itself: nothing, and yet a copy.
func TestRenameToItself(t *testing.T) {
	v := sample(t)
	was := told(v)
	for _, p := range []string{"/a", "/d", "/d/b", "/d/e", "/d/e/f", "/d/e/g"} {
		x, e := tree.Rename(v, p, p)
		if e != api.OK || told(x) != was {
			t.Errorf("%s: %v, %s", p, e, told(x))
		}
		spoil(x)
		if told(v) != was {
			t.Fatalf("%s: shared", p)
		}
	}
}

// spoil writes into all of a volume, and into the room behind its lists.
func spoil(v api.Vol) {
	for _, f := range v.Files {
		spoilFile(f)
	}
	for i := range v.Files[:cap(v.Files)] {
		v.Files[:cap(v.Files)][i] = api.File{ID: -5, Size: -5}
	}
}

func spoilFile(f api.File) {
	for i := range f.Blocks[:cap(f.Blocks)] {
		f.Blocks[:cap(f.Blocks)][i] = -5
	}
	for i := range f.List[:cap(f.List)] {
		f.List[:cap(f.List)][i] = api.Link{Name: "spoilt", ID: -5}
	}
}

// roomy is the same volume with room behind each list, filled with what must stay.
func roomy(v api.Vol) (w api.Vol, untouched func() bool) {
	w = twin(v)
	for i := range w.Files {
		f := &w.Files[i]
		f.List = append(f.List, api.Link{Name: "room", ID: 77}, api.Link{Name: "room", ID: 77})[:len(f.List)]
		f.Blocks = append(f.Blocks, 77, 77)[:len(f.Blocks)]
	}
	w.Files = append(w.Files, api.File{ID: 77}, api.File{ID: 77})[:len(w.Files)]
	return w, func() bool {
		for _, f := range w.Files {
			l, b := f.List[:len(f.List)+2], f.Blocks[:len(f.Blocks)+2]
			if l[len(f.List)].ID != 77 || l[len(f.List)+1].ID != 77 || b[len(f.Blocks)] != 77 || b[len(f.Blocks)+1] != 77 {
				return false
			}
		}
		n := len(w.Files)
		return w.Files[: n+2 : n+2][n].ID == 77 && w.Files[: n+2 : n+2][n+1].ID == 77
	}
}

// R2: what is handed in stays, spare room too; what is told is new memory.
func TestCopies(t *testing.T) {
	v, untouched := roomy(sample(t))
	was := told(v)
	for _, o := range []op{
		{"make", "/b", ""}, {"dir", "/b", ""}, {"make", "/d/e/g/x", ""}, {"link", "/a", "/d/a"}, {"unlink", "/a", ""}, {"unlink", "/d/e/f", ""}, {"rmdir", "/d/e/g", ""},
		{"rename", "/a", "/0"}, {"rename", "/d/e", "/e"}, {"rename", "/d/e/f", "/d/e/f"}, {"make", "/a", ""}, {"rename", "/d", "/a"},
	} {
		x, e := do(v, o)
		want := told(x)
		y, _ := do(v, o)
		spoil(y)
		z, g := do(v, o)
		if e != g || told(x) != want || told(z) != want || told(v) != was || !untouched() {
			t.Fatalf("%v: shared", o)
		}
		apart(t, o, x)
	}
	for _, p := range []string{"/", "/d", "/a", "/d/e/f"} {
		f, _ := tree.Find(v, p)
		want := toldFile(f)
		g, _ := tree.Find(v, p)
		spoilFile(g)
		if toldFile(f) != want || told(v) != was || !untouched() {
			t.Fatalf("%s: shared", p)
		}
	}
}

// apart holds a volume's lists to have no memory in common: it spoils one after the other.
func apart(t *testing.T, o op, v api.Vol) {
	t.Helper()
	for i, f := range v.Files {
		rest := told(api.Vol{Files: v.Files[i+1:]})
		spoilFile(f)
		if told(api.Vol{Files: v.Files[i+1:]}) != rest {
			t.Fatalf("%v: lists share memory", o)
		}
	}
}

// R2: a nil list and an empty one are one.
func TestEmptyLists(t *testing.T) {
	v := sample(t)
	w := twin(v)
	for i := range w.Files {
		f := &w.Files[i]
		f.List, f.Blocks = append([]api.Link{}, f.List...), append([]int{}, f.Blocks...)
	}
	for _, o := range []op{{"make", "/b", ""}, {"make", "/d/e/g/x", ""}, {"link", "/a", "/d/e/g/x"}, {"unlink", "/a", ""}, {"rmdir", "/d/e/g", ""}, {"rename", "/d/e", "/d/e/x"}, {"rename", "/d/e/g", "/g"}} {
		x, e := do(v, o)
		y, g := do(w, o)
		if e != g || told(x) != told(y) {
			t.Errorf("%v: %v, %v", o, e, g)
		}
	}
}
