package name_test

import (
	"regexp"
	"slices"
	"strings"
	"testing"

	"hermitage/api"
	"hermitage/name"
)

// The document's words as patterns, apart from the program's way.
var (
	nameForm = regexp.MustCompile(`\A[a-z0-9._-]{1,8}\z`)
	pathForm = regexp.MustCompile(`\A(/|(/[a-z0-9._-]{1,8}){1,5})\z`)
)

func isName(s string) bool {
	return nameForm.MatchString(s) && s != "." && s != ".."
}

// namesOf is the names of a path, if s is one.
func namesOf(s string) ([]string, bool) {
	if !pathForm.MatchString(s) || len(s) > api.MaxPath {
		return nil, false
	}
	if s == "/" {
		return nil, true
	}
	l := strings.Split(s, "/")[1:]
	for _, x := range l {
		if !isName(x) {
			return nil, false
		}
	}
	return l, true
}

// texts is all texts of up to many of the letters.
func texts(many int, letters ...string) []string {
	all, last := []string{""}, []string{""}
	for range many {
		var next []string
		for _, s := range last {
			for _, c := range letters {
				next = append(next, s+c)
			}
		}
		all, last = append(all, next...), next
	}
	return all
}

// oddTexts is texts around the edges: lengths, depths, bytes, dots.
func oddTexts() (all []string) {
	for n := range 20 {
		all = append(all, strings.Repeat("a", n), "/"+strings.Repeat("a", n), "/a/"+strings.Repeat("z", n)+"/b", strings.Repeat(".", n), "/"+strings.Repeat(".", n))
		for size := range 11 {
			x := strings.Repeat("/"+strings.Repeat("x", size), n)
			all = append(all, x, x+"/", x+"/.", x+"/..", x+"/yy", x+"y", strings.TrimPrefix(x, "/"))
		}
	}
	for b := range 256 {
		c := string([]byte{byte(b)})
		all = append(all, c, c+"a", "a"+c, "ab"+c+"cd", "abcdefg"+c, "."+c, c+".", "/"+c, "/a"+c, "/"+c+"a", "/a/b"+c+"c/d", c+"/a")
	}
	for _, c := range []string{"é", "\u0430", "\uff41", "\u0660", "\u200b", "\U0001d41a", "\xc3", "a\n", "\na", "a\r\n", "ſ", "K", "％"} {
		all = append(all, c, "a"+c, c+"a", "/"+c, "/a/"+c, "/a"+c+"/b")
	}
	long := strings.Repeat("a", 1<<20)
	return append(all, long, "/"+long, strings.Repeat("/a", 1<<20), strings.Repeat("/", 1<<20), "/a/"+long, strings.Repeat(".", 1<<20))
}

func short(s string) string {
	return s[:min(len(s), 60)]
}

// P2.1: Check, of all short texts and of the edges.
func TestCheck(t *testing.T) {
	for _, s := range append(texts(4, "a", "z", "0", "9", ".", "_", "-", "/", "A", " "), oddTexts()...) {
		want := api.ErrForm
		if isName(s) {
			want = api.OK
		}
		if e := name.Check(s); e != want {
			t.Errorf("%q: %v: not %v", short(s), e, want)
		}
	}
}

// P2.1: the edges by name.
func TestEdges(t *testing.T) {
	for s, want := range map[string]api.Errno{
		"": api.ErrForm, ".": api.ErrForm, "..": api.ErrForm, "...": api.OK, ".a": api.OK, "a.": api.OK, "..a": api.OK, "._": api.OK,
		"abcdefgh": api.OK, "abcdefghi": api.ErrForm, "........": api.OK, "/": api.ErrForm, "a/b": api.ErrForm, "Z": api.ErrForm,
	} {
		if e := name.Check(s); e != want {
			t.Errorf("Check(%q): %v", s, e)
		}
	}
	widest := strings.Repeat("/abcdefgh", api.MaxDepth)
	if len(widest) != api.MaxPath {
		t.Fatalf("%d bytes", len(widest))
	}
	for s, want := range map[string]api.Errno{
		"": api.ErrForm, "/": api.OK, "//": api.ErrForm, "/.": api.ErrForm, "/..": api.ErrForm, "/...": api.OK, "/a/": api.ErrForm, "a": api.ErrForm,
		widest: api.OK, widest + "i": api.ErrForm, widest + "/": api.ErrForm, widest + "/a": api.ErrForm, widest[1:]: api.ErrForm,
		"/a/a/a/a/a": api.OK, "/a/a/a/a/a/a": api.ErrForm, "/a/a/a/a/a/": api.ErrForm, "/abcdefghi": api.ErrForm,
	} {
		if e := name.Path(s); e != want {
			t.Errorf("Path(%q): %v", s, e)
		}
	}
}

// P2.1: Path, Split and Parent; P2.3: Join of Split is it.
func TestPaths(t *testing.T) {
	many := 0
	for _, s := range append(texts(7, "/", "a", ".", "A"), oddTexts()...) {
		want, ok := namesOf(s)
		l, e := name.Split(s)
		up, last, g := name.Parent(s)
		if !ok {
			if name.Path(s) != api.ErrForm || len(l) != 0 || e != api.ErrForm || up != "" || last != "" || g != api.ErrForm {
				t.Errorf("%q: %v, %v, %q, %q, %v", short(s), l, e, up, last, g)
			}
			continue
		}
		many++
		if name.Path(s) != api.OK || e != api.OK || !slices.Equal(l, want) {
			t.Errorf("%q: %v, %v: not %q", s, l, e, want)
		}
		if again, e := name.Join(l...); again != s || e != api.OK {
			t.Errorf("Join of Split of %q: %q, %v", s, again, e)
		}
		if len(want) == 0 {
			if up != "" || last != "" || g != api.ErrForm {
				t.Errorf("Parent of the root: %q, %q, %v", up, last, g)
			}
			continue
		}
		end := len(want) - 1
		above := "/" + strings.Join(want[:end], "/")
		if up != above || last != want[end] || g != api.OK {
			t.Errorf("Parent(%q): %q, %q, %v: not %q", s, up, last, g, above)
		}
	}
	if many < 100 {
		t.Errorf("only %d paths", many)
	}
}

// P2.1: Join, of all rows of few names and of the edges.
func TestJoin(t *testing.T) {
	rows := [][]string{nil, {}}
	for _, s := range texts(7, "a", "B") {
		rows = append(rows, strings.Split(s, ""))
	}
	for _, x := range []string{"", ".", "..", "a/b", "/", "/a", "a/", "abcdefghi", "A", "\x00"} {
		for n := range 9 {
			l := slices.Repeat([]string{"ok"}, n)
			for at := range n + 1 {
				rows = append(rows, slices.Insert(slices.Clone(l), at, x))
			}
		}
	}
	for n := range 9 {
		for _, x := range []string{"a", "abcdefgh", "..."} {
			rows = append(rows, slices.Repeat([]string{x}, n))
		}
	}
	rows = append(rows, slices.Repeat([]string{"a"}, 1<<18), append(slices.Repeat([]string{"a"}, 1<<18), ""))
	for _, l := range rows {
		want, text := api.OK, "/"+strings.Join(l, "/")
		if len(l) > api.MaxDepth {
			want, text = api.ErrLimit, ""
		}
		for _, x := range l {
			if !isName(x) {
				want, text = api.ErrForm, ""
			}
		}
		if s, e := name.Join(l...); s != text || e != want {
			t.Errorf("%q: %q, %v: not %q, %v", l[:min(9, len(l))], short(s), e, text, want)
		}
	}
}

// somePaths is paths that meet in many ways: as names, and as texts.
func somePaths() (all []string) {
	for _, l := range texts(5, "a", "b", "/") {
		if _, ok := namesOf("/" + l); ok {
			all = append(all, "/"+l)
		}
	}
	deep := strings.Repeat("/abcdefgh", api.MaxDepth)
	for n := 9; n <= len(deep); n += 9 {
		all = append(all, deep[:n], deep[:n-1])
	}
	return append(all, "/a/a/a/a/a", "/a/a/a/a", "/.../..a", "/...", "/...a")
}

// P2.2: Under, of all pairs of such paths.
func TestUnder(t *testing.T) {
	for _, a := range somePaths() {
		for _, b := range somePaths() {
			want := a == b || a == "/" || strings.HasPrefix(b, a+"/")
			if is, e := name.Under(a, b); is != want || e != api.OK {
				t.Errorf("Under(%q, %q): %v, %v", a, b, is, e)
			}
		}
	}
}

// P2.2: ErrForm, whichever of the two is no path, and nothing beside it.
func TestUnderErrForm(t *testing.T) {
	for _, x := range append(oddTexts(), "", "a", "a/b", "//", "/a/", "/.", "/a/..", "/A", "/a/a/a/a/a/a") {
		if _, ok := namesOf(x); ok {
			continue
		}
		for _, pair := range [][2]string{{x, "/"}, {"/", x}, {x, x}, {"/a", x}, {x, "/a/b"}} {
			if is, e := name.Under(pair[0], pair[1]); is || e != api.ErrForm {
				t.Errorf("Under(%q, %q): %v, %v", short(pair[0]), short(pair[1]), is, e)
			}
		}
	}
}

// R2: what is handed in stays, spare room too, and what is told is new memory.
func TestCopies(t *testing.T) {
	room := []string{"a", "b", "c", "d"}
	if s, e := name.Join(room[:2]...); s != "/a/b" || e != api.OK || !slices.Equal(room, []string{"a", "b", "c", "d"}) {
		t.Errorf("%q, %v, %q", s, e, room)
	}
	for _, s := range []string{"/", "/a", "/a/b/c", "/a/b/c/d/e"} {
		want, _ := namesOf(s)
		x, _ := name.Split(s)
		y, _ := name.Split(s)
		for i := range y {
			y[i] = "wrong"
		}
		_ = append(y, "wrong", "wrong", "wrong")
		_ = append(x, "other", "other", "other")
		if z, e := name.Split(s); !slices.Equal(x, want) || !slices.Equal(z, want) || e != api.OK {
			t.Errorf("%q: %q, %q, %v", s, x, z, e)
		}
	}
}
