package name

import (
	"slices"
	"strings"

	"hermitage/api"
)

// row is a path as its names, from the root down.
type row struct {
	names []string
}

func (r *row) add(names ...string) {
	r.names = append(r.names, names...)
}

// fits looks at the depth first: so the sum of the lengths stays small, however many names there are.
func (r *row) fits() bool {
	return len(r.names) <= api.MaxDepth && len(r.text()) <= api.MaxPath
}

func (r *row) text() string {
	if len(r.names) == 0 {
		return "/"
	}
	var b strings.Builder
	for _, s := range r.names {
		b.WriteByte('/')
		b.WriteString(s)
	}
	return b.String()
}

// begins holds name against name: as texts, /ab would begin with /a.
func (r *row) begins(names ...string) bool {
	return len(names) <= len(r.names) && slices.Equal(r.names[:len(names)], names)
}

// reader takes a path apart: the row in it is what was read, the rest what was not.
type reader struct {
	row
	rest string
}

// next reads a name with the / ahead of it, and tells whether one stood there.
func (r *reader) next() bool {
	rest, ok := strings.CutPrefix(r.rest, "/")
	if !ok {
		return false
	}
	end := strings.IndexByte(rest, '/')
	if end < 0 {
		end = len(rest)
	}
	if Check(rest[:end]) != api.OK {
		return false
	}
	// A copy: what is told shares no memory with what was handed in.
	r.add(strings.Clone(rest[:end]))
	r.rest = rest[end:]
	return true
}

// read is a path's names, or ErrForm. It looks at the length first: a text of any length costs no more than a path does.
func read(s string) (row, api.Errno) {
	if s == "/" {
		return row{}, api.OK
	}
	if s == "" || len(s) > api.MaxPath {
		return row{}, api.ErrForm
	}
	r := reader{rest: s}
	for r.rest != "" {
		if !r.next() {
			return row{}, api.ErrForm
		}
	}
	if !r.fits() {
		return row{}, api.ErrForm
	}
	return r.row, api.OK
}
