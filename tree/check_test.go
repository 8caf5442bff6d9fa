package tree_test

import (
	"math"
	"slices"
	"strings"
	"testing"

	"hermitage/api"
	"hermitage/name"
	"hermitage/tree"
)

// mayBe is the document's words on a volume, apart from the program's way: by all paths there are.
func mayBe(v api.Vol) bool {
	for _, n := range []int{v.ID, v.From, v.Next} {
		if n < 0 || n > api.MaxNum {
			return false
		}
	}
	if !v.Snap && v.From != 0 || len(v.Files) < 1 || len(v.Files) > api.MaxFiles || v.Files[0].ID != 1 || !v.Files[0].Dir {
		return false
	}
	files, named := map[int]api.File{}, map[int]int{}
	for i, f := range v.Files {
		if f.ID >= v.Next || i > 0 && f.ID <= v.Files[i-1].ID || !fileMayBe(f) {
			return false
		}
		files[f.ID] = f
		for _, l := range f.List {
			named[l.ID]++
		}
	}
	for id := range named {
		if _, is := files[id]; !is {
			return false
		}
	}
	for id, f := range files {
		if id == 1 && named[id] != 0 || id != 1 && f.Dir && named[id] != 1 || id != 1 && named[id] == 0 {
			return false
		}
	}
	reached, level := map[int]bool{1: true}, []int{1}
	for depth := 0; len(level) > 0; depth++ {
		if depth > api.MaxDepth {
			return false
		}
		var next []int
		for _, id := range level {
			for _, l := range files[id].List {
				reached[l.ID] = true
				next = append(next, l.ID)
			}
		}
		level = next
	}
	return len(reached) == len(files)
}

func fileMayBe(f api.File) bool {
	if f.Dir {
		for i, l := range f.List {
			if name.Check(l.Name) != api.OK || i > 0 && strings.Compare(f.List[i-1].Name, l.Name) != -1 {
				return false
			}
		}
		return f.Size == 0 && len(f.Blocks) == 0 && len(f.List) <= api.MaxLinks
	}
	if f.Size < 0 || f.Size > api.MaxText || len(f.List) > 0 {
		return false
	}
	for _, b := range f.Blocks {
		if b < 0 || b >= api.MaxNum {
			return false
		}
	}
	return len(f.Blocks)*api.Sector >= f.Size && (len(f.Blocks)-1)*api.Sector < f.Size && (f.Size > 0 || len(f.Blocks) == 0)
}

// sample has a bit of all: a file with two links, one with blocks, directories in directories.
func sample(t *testing.T) api.Vol {
	v := built(t, "dir /d", "make /a", "link /a /d/b", "dir /d/e", "make /d/e/f", "dir /d/e/g")
	v.Files[2].Size, v.Files[2].Blocks = 33, []int{7, 0}
	v.Files[4].Size, v.Files[4].Blocks = 32, []int{7}
	return v
}

// edge is a change of a sample, and whether what comes of it may be.
type edge struct {
	what string
	ok   bool
	turn func(v *api.Vol)
}

func numberEdges() []edge {
	return []edge{
		{"ID 0", true, func(v *api.Vol) { v.ID = 0 }},
		{"ID MaxNum", true, func(v *api.Vol) { v.ID = api.MaxNum }},
		{"ID -1", false, func(v *api.Vol) { v.ID = -1 }},
		{"ID above", false, func(v *api.Vol) { v.ID = api.MaxNum + 1 }},
		{"ID least", false, func(v *api.Vol) { v.ID = math.MinInt }},
		{"From of none", false, func(v *api.Vol) { v.From = 1 }},
		{"snapshot From 0", true, func(v *api.Vol) { v.Snap = true }},
		{"snapshot From 1", true, func(v *api.Vol) { v.Snap, v.From = true, 1 }},
		{"snapshot From MaxNum", true, func(v *api.Vol) { v.Snap, v.From = true, api.MaxNum }},
		{"snapshot From above", false, func(v *api.Vol) { v.Snap, v.From = true, api.MaxNum+1 }},
		{"snapshot From -1", false, func(v *api.Vol) { v.Snap, v.From = true, -1 }},
		{"Next as the last ID", false, func(v *api.Vol) { v.Next = 6 }},
		{"Next greater", true, func(v *api.Vol) { v.Next = 9 }},
		{"Next MaxNum", true, func(v *api.Vol) { v.Next = api.MaxNum }},
		{"Next above", false, func(v *api.Vol) { v.Next = api.MaxNum + 1 }},
		{"Next greatest", false, func(v *api.Vol) { v.Next = math.MaxInt }},
		{"Next least", false, func(v *api.Vol) { v.Next = math.MinInt }},
		{"zero", false, func(v *api.Vol) { *v = api.Vol{} }},
		{"no files", false, func(v *api.Vol) { v.Files = nil }},
		{"only a root", true, func(v *api.Vol) { v.Files = []api.File{{ID: 1, Dir: true}} }},
		{"only a root, Next 2", true, func(v *api.Vol) { v.Files, v.Next = []api.File{{ID: 1, Dir: true}}, 2 }},
		{"only a root, Next 1", false, func(v *api.Vol) { v.Files, v.Next = []api.File{{ID: 1, Dir: true}}, 1 }},
		{"only a file", false, func(v *api.Vol) { v.Files = []api.File{{ID: 1}} }},
		{"only a directory 2", false, func(v *api.Vol) { v.Files = []api.File{{ID: 2, Dir: true}} }},
		{"only a directory 2, in itself", false, func(v *api.Vol) { v.Files = []api.File{{ID: 2, Dir: true, List: []api.Link{{Name: "a", ID: 2}}}} }},
		{"only two directories, in each other", false, func(v *api.Vol) {
			v.Files = []api.File{{ID: 2, Dir: true, List: []api.Link{{Name: "a", ID: 3}}}, {ID: 3, Dir: true, List: []api.Link{{Name: "a", ID: 2}}}}
		}},
		{"last ID below MaxNum", true, func(v *api.Vol) {
			v.Files[5].ID, v.Files[3].List[1].ID, v.Next = api.MaxNum-1, api.MaxNum-1, api.MaxNum
		}},
		{"last ID MaxNum", false, func(v *api.Vol) { v.Files[5].ID, v.Files[3].List[1].ID, v.Next = api.MaxNum, api.MaxNum, api.MaxNum }},
	}
}

func fileEdges() []edge {
	return []edge{
		{"root a file", false, func(v *api.Vol) { v.Files[0].Dir = false }},
		{"root 0", false, func(v *api.Vol) { v.Files[0].ID = 0 }},
		{"a file 0", false, func(v *api.Vol) { v.Files = slices.Insert(v.Files, 0, api.File{ID: 0}) }},
		{"an ID twice", false, func(v *api.Vol) { v.Files = slices.Insert(v.Files, 3, v.Files[2]) }},
		{"a root twice", false, func(v *api.Vol) { v.Files = slices.Insert(v.Files, 1, v.Files[0]) }},
		{"not rising", false, func(v *api.Vol) { v.Files[1], v.Files[2] = v.Files[2], v.Files[1] }},
		{"directory of a size", false, func(v *api.Vol) { v.Files[1].Size = 1 }},
		{"directory with blocks", false, func(v *api.Vol) { v.Files[1].Blocks = []int{1} }},
		{"directory with size and blocks", false, func(v *api.Vol) { v.Files[1].Size, v.Files[1].Blocks = 1, []int{1} }},
		{"directory with empty blocks", true, func(v *api.Vol) { v.Files[1].Blocks = []int{} }},
		{"file with links", false, func(v *api.Vol) { v.Files[3].List, v.Files[4].List = v.Files[3].List[:1], v.Files[3].List[1:] }},
		{"file with a link to itself", false, func(v *api.Vol) { v.Files[2].List = []api.Link{{Name: "x", ID: 3}} }},
		{"file with empty links", true, func(v *api.Vol) { v.Files[2].List = []api.Link{} }},
		{"too few blocks", false, func(v *api.Vol) { v.Files[2].Size = 65 }},
		{"too many blocks", false, func(v *api.Vol) { v.Files[2].Size = 32 }},
		{"blocks of nothing", false, func(v *api.Vol) { v.Files[2].Size, v.Files[2].Blocks = 0, []int{0} }},
		{"size of nothing", false, func(v *api.Vol) { v.Files[2].Size, v.Files[2].Blocks = 1, nil }},
		{"just full blocks", true, func(v *api.Vol) { v.Files[2].Size = 64 }},
		{"one byte", true, func(v *api.Vol) { v.Files[2].Size, v.Files[2].Blocks = 1, []int{0} }},
		{"size MaxText", true, func(v *api.Vol) { v.Files[2].Size, v.Files[2].Blocks = api.MaxText, make([]int, 7) }},
		{"size MaxText, too few blocks", false, func(v *api.Vol) { v.Files[2].Size, v.Files[2].Blocks = api.MaxText, make([]int, 6) }},
		{"size above", false, func(v *api.Vol) { v.Files[2].Size, v.Files[2].Blocks = api.MaxText+1, make([]int, 7) }},
		{"size -1", false, func(v *api.Vol) { v.Files[2].Size, v.Files[2].Blocks = -1, nil }},
		{"size greatest", false, func(v *api.Vol) { v.Files[2].Size, v.Files[2].Blocks = math.MaxInt, nil }},
		{"size least", false, func(v *api.Vol) { v.Files[2].Size, v.Files[2].Blocks = math.MinInt, nil }},
		{"block -1", false, func(v *api.Vol) { v.Files[2].Blocks[0] = -1 }},
		{"last block -1", false, func(v *api.Vol) { v.Files[2].Blocks[1] = -1 }},
		{"block MaxNum", false, func(v *api.Vol) { v.Files[2].Blocks[1] = api.MaxNum }},
		{"block below MaxNum", true, func(v *api.Vol) { v.Files[2].Blocks[0] = api.MaxNum - 1 }},
		{"blocks the same", true, func(v *api.Vol) { v.Files[2].Blocks[1] = 7 }},
		{"blocks rising", true, func(v *api.Vol) { v.Files[2].Blocks[1] = 8 }},
	}
}

// Files of the sample: 1 /, 2 /d, 3 /a and /d/b, 4 /d/e, 5 /d/e/f, 6 /d/e/g: by index one less.
func linkEdges() []edge {
	return []edge{
		{"names the same", false, func(v *api.Vol) { v.Files[1].List[0].Name = "e" }},
		{"names falling", false, func(v *api.Vol) { v.Files[1].List[0].Name = "x" }},
		{"names as texts", true, func(v *api.Vol) { v.Files[1].List[0].Name, v.Files[1].List[1].Name = "10", "9" }},
		{"names as numbers", false, func(v *api.Vol) { v.Files[1].List[0].Name, v.Files[1].List[1].Name = "9", "10" }},
		{"no name", false, func(v *api.Vol) { v.Files[1].List[0].Name = "" }},
		{"a dot", false, func(v *api.Vol) { v.Files[1].List[0].Name = "." }},
		{"two dots", false, func(v *api.Vol) { v.Files[1].List[0].Name = ".." }},
		{"a path", false, func(v *api.Vol) { v.Files[1].List[0].Name = "a/b" }},
		{"a great letter", false, func(v *api.Vol) { v.Files[1].List[0].Name = "A" }},
		{"a name of MaxName", true, func(v *api.Vol) { v.Files[1].List[0].Name = strings.Repeat("a", api.MaxName) }},
		{"a longer one", false, func(v *api.Vol) { v.Files[1].List[0].Name = strings.Repeat("a", api.MaxName+1) }},
		{"a link to none", false, func(v *api.Vol) { v.Files[1].List[0].ID = 99 }},
		{"a link to 0", false, func(v *api.Vol) { v.Files[1].List[0].ID = 0 }},
		{"a link to -1", false, func(v *api.Vol) { v.Files[1].List[0].ID = -1 }},
		{"a link to Next", false, func(v *api.Vol) { v.Files[1].List[0].ID = v.Next }},
		{"a link to the root", false, func(v *api.Vol) { v.Files[1].List[0].ID = 1 }},
		{"a link of the root to the root", false, func(v *api.Vol) { v.Files[0].List = append(v.Files[0].List, api.Link{Name: "z", ID: 1}) }},
		{"a directory named twice", false, func(v *api.Vol) { v.Files[1].List[0].ID = 4 }},
		{"a directory named by itself, too", false, func(v *api.Vol) { v.Files[1].List[0].ID = 2 }},
		{"a directory not named", false, func(v *api.Vol) { v.Files[3].List = v.Files[3].List[:1] }},
		{"a file not named", false, func(v *api.Vol) { v.Files[3].List = v.Files[3].List[1:] }},
		{"a file named once", true, func(v *api.Vol) { v.Files[1].List = v.Files[1].List[1:] }},
		{"a file named twice in one", true, func(v *api.Vol) { v.Files[1].List[0].ID = 5 }},
		{"a new file not named", false, func(v *api.Vol) { v.Files, v.Next = append(v.Files, api.File{ID: 8}), 9 }},
		{"a new directory not named", false, func(v *api.Vol) { v.Files, v.Next = append(v.Files, api.File{ID: 8, Dir: true}), 9 }},
		{"a directory in itself", false, func(v *api.Vol) {
			v.Files[0].List = v.Files[0].List[:1]
			v.Files[1].List = append(v.Files[1].List, api.Link{Name: "z", ID: 2})
		}},
		{"two in each other", false, func(v *api.Vol) {
			v.Files[0].List = v.Files[0].List[:1]
			v.Files[3].List = append(v.Files[3].List, api.Link{Name: "z", ID: 2})
		}},
	}
}

// P3.1: Check, and ErrForm ahead of all in each call, with nothing beside it.
func TestCheckEdges(t *testing.T) {
	for _, c := range slices.Concat(numberEdges(), fileEdges(), linkEdges()) {
		v := sample(t)
		c.turn(&v)
		if mayBe(v) != c.ok {
			t.Fatalf("%s: the tests' own words say otherwise", c.what)
		}
		if (tree.Check(v) == api.OK) != c.ok || !c.ok && tree.Check(v) != api.ErrForm {
			t.Errorf("%s: %v", c.what, tree.Check(v))
		}
		for _, snap := range []bool{false, true} {
			if w := twin(v); !c.ok && !mayBe(w) {
				w.Snap = w.Snap || snap
				if !mayBe(w) {
					refused(t, c.what, w)
				}
			}
		}
	}
}

// refused holds each call to ErrForm, with paths of all sorts.
func refused(t *testing.T, what string, v api.Vol) {
	t.Helper()
	was := told(v)
	for _, p := range []string{"/", "/a", "/q", "/d", "/d/e/f", "/q/q", "bad"} {
		if f, e := tree.Find(v, p); e != api.ErrForm || toldFile(f) != toldFile(api.File{}) {
			t.Errorf("%s: Find(%q): %v", what, p, e)
		}
		for _, kind := range []string{"make", "dir", "link", "unlink", "rmdir", "rename"} {
			for _, q := range []string{"/", "/q", p} {
				if x, e := do(v, op{kind, p, q}); e != api.ErrForm || told(x) != told(api.Vol{}) {
					t.Errorf("%s: %s(%q, %q): %v", what, kind, p, q, e)
				}
			}
		}
	}
	for _, id := range []int{0, 1, 3, -1} {
		if n, e := tree.Links(v, id); n != 0 || e != api.ErrForm {
			t.Errorf("%s: Links(%d): %d, %v", what, id, n, e)
		}
	}
	if told(v) != was {
		t.Errorf("%s: changed", what)
	}
}

// chained is a volume with a row of directories, one in the other, and behind them a file or a directory.
func chained(many int, dir bool) api.Vol {
	v := api.Vol{ID: 1, Next: many + 3}
	for i := range many + 1 {
		v.Files = append(v.Files, api.File{ID: i + 1, Dir: true, List: []api.Link{{Name: "n", ID: i + 2}}})
	}
	v.Files = append(v.Files, api.File{ID: many + 2, Dir: dir})
	return v
}

// P3.1: Check, of as deep, as wide and as many as may be, and of one more.
func TestCheckLimits(t *testing.T) {
	for many := range api.MaxFiles + 2 {
		for _, dir := range []bool{false, true} {
			want := api.OK
			if many+1 > api.MaxDepth {
				want = api.ErrForm
			}
			if e := tree.Check(chained(many, dir)); e != want {
				t.Errorf("%d, %v: %v", many, dir, e)
			}
		}
	}
	for links := range 40 {
		v := api.Vol{Next: 3, Files: []api.File{{ID: 1, Dir: true}, {ID: 2}}}
		for i := range links {
			v.Files[0].List = append(v.Files[0].List, api.Link{Name: string([]byte{byte('a' + i/26), byte('a' + i%26)}), ID: 2})
		}
		if is := tree.Check(v) == api.OK; is != (links >= 1 && links <= api.MaxLinks) {
			t.Errorf("%d links: %v", links, is)
		}
	}
	for files := 1; files < 40; files++ {
		v := api.Vol{Next: files + 1, Files: []api.File{{ID: 1, Dir: true}}}
		for id := 2; id <= files; id++ {
			up := &v.Files[(id-2)/api.MaxLinks]
			up.List = append(up.List, api.Link{Name: string(rune('a' + id%26)), ID: id})
			v.Files = append(v.Files, api.File{ID: id, Dir: true})
		}
		for i := range v.Files {
			slices.SortFunc(v.Files[i].List, func(a, b api.Link) int { return strings.Compare(a.Name, b.Name) })
		}
		if is := tree.Check(v) == api.OK; is != (files <= api.MaxFiles) {
			t.Errorf("%d files: %v", files, is)
		}
	}
}

// R1: what is far beyond all limits is refused, too.
func TestCheckGreat(t *testing.T) {
	long := strings.Repeat("a", 1<<20)
	for i, turn := range []func(v *api.Vol){
		func(v *api.Vol) { v.Files = slices.Repeat(v.Files, 1<<14) },
		func(v *api.Vol) { v.Files[0].List = slices.Repeat(v.Files[0].List, 1<<18) },
		func(v *api.Vol) { v.Files[2].Blocks = make([]int, 1<<20) },
		func(v *api.Vol) { v.Files[0].List[0].Name = long },
	} {
		v := sample(t)
		turn(&v)
		if e := tree.Check(v); e != api.ErrForm {
			t.Errorf("%d: %v", i, e)
		}
	}
	if e := tree.Check(braid()); e != api.ErrForm {
		t.Errorf("all to all: %v", e)
	}
	if f, e := tree.Find(sample(t), "/"+long); e != api.ErrForm || f.ID != 0 {
		t.Errorf("a long path: %v", e)
	}
}

// braid is directories with links each to the next ones: of ways through it there are far too many to go.
func braid() api.Vol {
	v := api.Vol{Next: api.MaxFiles + 1}
	for i := range api.MaxFiles {
		f := api.File{ID: i + 1, Dir: true}
		for k := range api.MaxLinks {
			f.List = append(f.List, api.Link{Name: string(rune('a' + k)), ID: (i+k)%api.MaxFiles + 1})
		}
		v.Files = append(v.Files, f)
	}
	return v
}

// turned is a volume with one thing in it turned, somehow.
func turned(d *dice, v api.Vol) api.Vol {
	numbers := []int{math.MinInt, -1, 0, 1, 2, 3, 4, 5, 6, 7, 8, 31, 32, 33, api.MaxText, api.MaxText + 1, api.MaxNum - 1, api.MaxNum, api.MaxNum + 1, math.MaxInt}
	if len(v.Files) == 0 {
		v.Next = pick(d, numbers...)
		return v
	}
	i := d.below(len(v.Files))
	f := &v.Files[i]
	switch d.below(14) {
	case 0:
		v.ID = pick(d, numbers...)
	case 1:
		v.From, v.Snap = pick(d, numbers...), d.below(2) == 0
	case 2:
		v.Next = pick(d, numbers...)
	case 3:
		f.ID = pick(d, numbers...)
	case 4:
		f.Dir = !f.Dir
	case 5:
		f.Size = pick(d, numbers...)
	case 6:
		f.Blocks = append(f.Blocks, pick(d, numbers...))
	case 7:
		f.Size, f.Blocks = d.below(api.MaxText+2), make([]int, d.below(8))
	case 8:
		f.List = append(f.List, api.Link{Name: pick(d, "a", "zz", "..", ""), ID: d.below(9)})
	case 9:
		v.Files = slices.Delete(v.Files, i, i+1)
	case 10:
		k := d.below(len(v.Files))
		v.Files[i], v.Files[k] = v.Files[k], v.Files[i]
	default:
		if len(f.List) > 0 {
			turnLink(d, f, d.below(len(f.List)))
		}
	}
	return v
}

func turnLink(d *dice, f *api.File, i int) {
	switch d.below(3) {
	case 0:
		f.List[i].ID = d.below(10)
	case 1:
		f.List[i].Name = pick(d, "a", "b", "m", "zzzzzzzz", "zzzzzzzzz", "A", "")
	default:
		f.List = slices.Delete(f.List, i, i+1)
	}
}

// P3.1: Check, of many volumes with something turned, against the document's words.
func TestCheckTurned(t *testing.T) {
	var d dice
	many := map[bool]int{}
	v := sample(t)
	for i := range 15000 {
		if x, e := do(v, someOp(&d, v)); e == api.OK && i%3 == 0 {
			v = x
		}
		w := twin(v)
		for range 1 + d.below(2) {
			w = turned(&d, w)
		}
		want := api.ErrForm
		if mayBe(w) {
			want = api.OK
		}
		many[want == api.OK]++
		was := told(w)
		if e := tree.Check(w); e != want || told(w) != was {
			t.Fatalf("%s: %v: not %v", was, e, want)
		}
	}
	if many[true] < 1000 || many[false] < 1000 {
		t.Errorf("%v", many)
	}
}
