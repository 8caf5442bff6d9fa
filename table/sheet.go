package table

import (
	"slices"

	"hermitage/api"
)

// fits tells whether many sectors from at on are some of size.
// It holds many against what is left behind at: the sum of any two numbers might wrap round.
func fits(at, many, size int) bool {
	return at >= 0 && many >= 1 && many <= size-at
}

func isID(dev int) bool {
	return dev >= 1 && dev <= api.MaxIDs
}

// entry is one of a row, where it stands there: what is done to it is done to the row.
type entry struct {
	*api.Entry
}

func (x entry) end() int {
	return x.From + x.Len
}

func (x entry) has(n int) bool {
	return x.From <= n && n < x.end()
}

// place is where sector n lies, or would lie, if the entry went on to it.
func (x entry) place(n int) api.Ptr {
	return api.Ptr{Dev: x.Dev, At: x.To + n - x.From}
}

func (x entry) goesOnAs(y entry) bool {
	return x.end() == y.From && x.place(y.From) == y.place(y.From)
}

// isStale tells whether all of its sectors are stale: of a single one a table does not know it.
func (x entry) isStale() bool {
	return x.Stale == x.Len
}

// cut is the entry of its sectors from first on that are below end, if there are any.
func (x entry) cut(first, end int) (api.Entry, bool) {
	first, end = max(first, x.From), min(end, x.end())
	if first >= end {
		return api.Entry{}, false
	}
	p := x.place(first)
	return api.Entry{From: first, Len: end - first, Dev: p.Dev, To: p.At}, true
}

// row is entries by rising From.
type row []api.Entry

func (r row) at(i int) entry {
	return entry{&r[i]}
}

func (r row) find(n int) (entry, bool) {
	for i := range r {
		if x := r.at(i); x.has(n) {
			return x, true
		}
	}
	return entry{}, false
}

func (r row) cut(first, end int) []api.Entry {
	var l []api.Entry
	for i := range r {
		if x, is := r.at(i).cut(first, end); is {
			l = append(l, x)
		}
	}
	return l
}

func (r row) live() int {
	n := 0
	for _, x := range r {
		n += x.Len - x.Stale
	}
	return n
}

// sheet is a table: the row of its entries, and what it says of itself.
type sheet struct {
	row
	dev  int
	size int
}

func sheetOf(t api.Table) *sheet {
	return &sheet{row: t.List, dev: t.Dev, size: t.Size}
}

// open is a copy of the table with more entries behind its own, if it may be with them.
func open(t api.Table, more ...api.Entry) (*sheet, api.Errno) {
	// Ahead of the copy: a list that may not be may be of any length.
	if e := Check(t); e != api.OK {
		return nil, e
	}
	s := sheetOf(t)
	s.row = slices.Concat(s.row, more)
	if !s.mayBe() {
		return nil, api.ErrForm
	}
	return s, api.OK
}

// openAt is a copy of the table, and the entry of it that sector n is in.
func openAt(t api.Table, n int) (*sheet, entry, api.Errno) {
	s, e := open(t)
	if e != api.OK {
		return nil, entry{}, e
	}
	x, is := s.find(n)
	if !is {
		return nil, entry{}, api.ErrNone
	}
	return s, x, api.OK
}

func (s *sheet) table() api.Table {
	return api.Table{Dev: s.dev, Size: s.size, List: s.row}
}

func (s *sheet) mayBe() bool {
	if !isID(s.dev) || s.size < 1 || s.size > api.MaxSize {
		return false
	}
	least := 0
	for i := range s.row {
		x := s.at(i)
		if x.From < least || !s.mayHave(x) {
			return false
		}
		least = x.end()
	}
	return true
}

// mayHave looks at one entry alone, not at where the ones ahead of it end.
func (s *sheet) mayHave(x entry) bool {
	if !fits(x.From, x.Len, s.size) || !fits(x.To, x.Len, api.MaxSize) {
		return false
	}
	return isID(x.Dev) && x.Dev != s.dev && x.Stale >= 0 && x.Stale <= x.Len
}

// joinLast makes the last two entries one, if the second goes on where the first one ends, here and on its device.
func (s *sheet) joinLast() {
	last := len(s.row) - 1
	if last < 1 {
		return
	}
	x, y := s.at(last-1), s.at(last)
	if x.goesOnAs(y) {
		x.Len += y.Len
		s.row = s.row[:last]
	}
}

func (s *sheet) dropStale() {
	s.row = slices.DeleteFunc(s.row, func(x api.Entry) bool { return entry{&x}.isStale() })
}
