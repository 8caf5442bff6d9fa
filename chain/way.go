package chain

import (
	"slices"

	"hermitage/api"
	"hermitage/table"
)

// link is a table where it stands in a pool: what is lost in it is lost in the pool.
type link struct {
	*api.Table
}

func (l link) mayBe() bool {
	return table.Check(*l.Table) == api.OK
}

// leadsInto tells whether all its entries are to devices or tables of these.
func (l link) leadsInto(some *idSet) bool {
	return !slices.ContainsFunc(l.List, func(x api.Entry) bool { return !some.has(x.Dev) })
}

// end is where its last entry ends: 0 without any.
func (l link) end() int {
	if len(l.List) == 0 {
		return 0
	}
	last := l.List[len(l.List)-1]
	return last.From + last.Len
}

// job is the link of the device that is emptied, for its sectors below upTo.
type job struct {
	link
	upTo int
}

func (j job) isNone() bool {
	return j.upTo == 0 && j.Dev == 0 && j.Size == 0 && len(j.List) == 0
}

// mayBeOf does not ask where the entries lead to.
func (j job) mayBeOf(d api.Device) bool {
	if j.Dev != d.ID || j.Size != d.Size || !j.mayBe() {
		return false
	}
	return j.upTo >= 0 && j.upTo < j.Size && j.end() <= j.upTo
}

// isDoneWith tells whether what lay on that sector lies where the job's table says.
func (j job) isDoneWith(q api.Ptr) bool {
	return q.Dev == j.Dev && q.At < j.upTo
}

// stop is a sector of a table that a way goes by.
type stop struct {
	link
	at int
}

func (s stop) next() (api.Ptr, api.Errno) {
	return table.Look(*s.Table, s.at)
}

func (s stop) lose() api.Errno {
	t, e := table.Lose(*s.Table, s.at)
	if e != api.OK {
		return e
	}
	*s.Table = t
	return api.OK
}

// way is where a place has led to so far, and by which stops.
type way struct {
	api.Ptr
	stops []stop
}

// goOn takes the way through one table more, from the sector that it has come to.
func (w *way) goOn(l link) api.Errno {
	s := stop{link: l, at: w.At}
	q, e := s.next()
	if e != api.OK {
		return e
	}
	w.Ptr, w.stops = q, append(w.stops, s)
	return api.OK
}

// lose makes one sector more stale in each table on the way.
func (w way) lose() api.Errno {
	for _, s := range w.stops {
		if e := s.lose(); e != api.OK {
			return e
		}
	}
	return api.OK
}

func (w way) devs() []int {
	var l []int
	for _, s := range w.stops {
		l = append(l, s.Dev)
	}
	return l
}
