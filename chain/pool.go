package chain

import (
	"slices"

	"hermitage/api"
	"hermitage/room"
)

// idSet is some of the IDs that devices may have.
type idSet struct {
	in [api.MaxIDs + 1]bool
}

func (s *idSet) add(id int) {
	s.in[id] = true
}

func (s *idSet) has(id int) bool {
	return s.in[id]
}

// pool is one that a call looks at, or, where the call changes it, a copy.
type pool struct {
	*api.Pool
}

// open is a copy of the pool, if it may be.
func open(p api.Pool) (pool, api.Errno) {
	// Ahead of the copy: a list that may not be may be of any length.
	if e := Check(p); e != api.OK {
		return pool{}, e
	}
	p.Devices = slices.Clone(p.Devices)
	for i, d := range p.Devices {
		p.Devices[i].Free, p.Devices[i].Late = slices.Clone(d.Free), slices.Clone(d.Late)
	}
	p.Tables = slices.Clone(p.Tables)
	for i, t := range p.Tables {
		p.Tables[i].List = slices.Clone(t.List)
	}
	p.Job.Table.List = slices.Clone(p.Job.Table.List)
	return pool{&p}, api.OK
}

func (p pool) device(id int) (api.Device, bool) {
	for _, d := range p.Devices {
		if d.ID == id {
			return d, true
		}
	}
	return api.Device{}, false
}

// ids is those of all devices that are there.
func (p pool) ids() *idSet {
	var s idSet
	for _, d := range p.Devices {
		s.add(d.ID)
	}
	return &s
}

// links is the tables of devices that are gone.
func (p pool) links() []link {
	var l []link
	for i := range p.Tables {
		l = append(l, link{&p.Tables[i]})
	}
	return l
}

func (p pool) link(dev int) (link, bool) {
	for i := range p.Tables {
		if p.Tables[i].Dev == dev {
			return link{&p.Tables[i]}, true
		}
	}
	return link{}, false
}

func (p pool) job() job {
	return job{link: link{&p.Job.Table}, upTo: p.Job.At}
}

func (p pool) mayBe() bool {
	return room.Check(p.Devices) == api.OK && p.tablesMayBe() && p.allEnd() && p.jobMayBe() && p.isLeftOne() && p.nextMayBe()
}

// tablesMayBe counts first: what is longer is not gone through. It does not ask where the entries lead to.
func (p pool) tablesMayBe() bool {
	if len(p.Tables) > api.MaxTables {
		return false
	}
	last := 0
	for _, l := range p.links() {
		if _, is := p.device(l.Dev); is || l.Dev <= last || !l.mayBe() {
			return false
		}
		last = l.Dev
	}
	return true
}

// allEnd tells whether all ways end on devices that are there: just then each entry is to a device or a table, and no table leads back to itself.
func (p pool) allEnd() bool {
	ends := p.ids()
	left := p.links()
	for len(left) > 0 {
		var more []link
		for _, l := range left {
			if l.leadsInto(ends) {
				ends.add(l.Dev)
			} else {
				more = append(more, l)
			}
		}
		if len(more) == len(left) {
			return false
		}
		left = more
	}
	return true
}

// jobMayBe need not ask whether an entry is to the job's own device: no table's entry is.
func (p pool) jobMayBe() bool {
	if p.Job.Dev == 0 {
		return p.job().isNone()
	}
	d, is := p.device(p.Job.Dev)
	return is && p.job().mayBeOf(d) && p.job().leadsInto(p.ids())
}

// isLeftOne tells whether there is a device that is not the job's.
func (p pool) isLeftOne() bool {
	return slices.ContainsFunc(p.Devices, func(d api.Device) bool { return d.ID != p.Job.Dev })
}

func (p pool) nextMayBe() bool {
	last := 0
	for _, d := range p.Devices {
		last = max(last, d.ID)
	}
	for _, t := range p.Tables {
		last = max(last, t.Dev)
	}
	return p.Next > last && p.Next <= api.MaxIDs+1
}

// has tells whether such a sector is there.
func (p pool) has(q api.Ptr) bool {
	d, is := p.device(q.Dev)
	return is && q.At >= 0 && q.At < d.Size
}

// old is the way by the tables of devices that are gone. It ends, as all ways do in a pool that may be.
func (p pool) old(q api.Ptr) (way, api.Errno) {
	w := way{Ptr: q}
	for l, is := p.link(w.Dev); is; l, is = p.link(w.Dev) {
		if e := w.goOn(l); e != api.OK {
			return way{}, e
		}
	}
	if !p.has(w.Ptr) {
		return way{}, api.ErrNone
	}
	return w, api.OK
}

// now is the way by all tables. The job's leads to devices that are there: nothing goes on behind it.
func (p pool) now(q api.Ptr) (way, api.Errno) {
	w, e := p.old(q)
	if e != api.OK {
		return way{}, e
	}
	if !p.job().isDoneWith(w.Ptr) {
		return w, api.OK
	}
	if e := w.goOn(p.job().link); e != api.OK {
		return way{}, e
	}
	if !p.has(w.Ptr) {
		return way{}, api.ErrNone
	}
	return w, api.OK
}

// lose takes away what was laid at each of the places. Behind an error part of that may be done: the copy is not told then.
func (p pool) lose(q ...api.Ptr) api.Errno {
	for _, one := range q {
		w, e := p.now(one)
		if e != api.OK {
			return e
		}
		if e := w.lose(); e != api.OK {
			return e
		}
		if e := p.give(w.Ptr); e != api.OK {
			return e
		}
	}
	return api.OK
}

func (p pool) give(q api.Ptr) api.Errno {
	l, e := room.Give(p.Devices, q)
	if e != api.OK {
		return e
	}
	p.Devices = l
	return api.OK
}
