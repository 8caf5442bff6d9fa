package body

import (
	"strings"

	"hermitage/api"
)

// fill stands behind the end of a text, up to the end of its last piece.
const fill = "\x00"

// row is pieces, one behind the other.
type row []string

// even tells whether each piece is of one sector.
func (r row) even() bool {
	for _, p := range r {
		if len(p) != api.Sector {
			return false
		}
	}
	return true
}

// all is the bytes of all pieces, what the last one was filled with too.
func (r row) all() string {
	return strings.Join(r, "")
}

// text is a row of which only so many bytes count.
type text struct {
	row
	size int
}

// open tells the text that n and l are, or ErrForm if they are none.
func open(n int, l []string) (text, api.Errno) {
	t := text{row: l, size: n}
	if !t.mayBe() {
		return text{}, api.ErrForm
	}
	return t, api.OK
}

// mayBe looks at the size first: a wild one must not come into a sum.
func (t text) mayBe() bool {
	if t.size < 0 || t.size > api.MaxText {
		return false
	}
	if len(t.row) != pieces(t.size) || !t.even() {
		return false
	}
	return strings.Trim(t.all()[t.size:], fill) == ""
}

func (t text) bytes() string {
	return t.all()[:t.size]
}

// reaches tells whether one can read and write from at on: also just behind the last byte.
func (t text) reaches(at int) bool {
	return at >= 0 && at <= t.size
}

// pieces tells how many pieces a text of n bytes has.
func pieces(n int) int {
	return (n + api.Sector - 1) / api.Sector
}

// cut tells the pieces of the parts as one text.
func cut(parts ...string) []string {
	var l []string
	t := strings.Join(parts, "")
	for len(t) > api.Sector {
		l = append(l, t[:api.Sector])
		t = t[api.Sector:]
	}
	if t != "" {
		l = append(l, t+strings.Repeat(fill, api.Sector-len(t)))
	}
	return l
}

// numbers tells those from first on that are below end.
func numbers(first, end int) []int {
	var l []int
	for k := first; k < end; k++ {
		l = append(l, k)
	}
	return l
}
