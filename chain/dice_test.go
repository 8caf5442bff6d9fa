package chain_test

import (
	"slices"

	"hermitage/api"
)

// dice throws numbers that are always the same.
type dice uint64

func (d *dice) below(n int) int {
	*d = *d*6364136223846793005 + 1442695040888963407
	return int(*d >> 33 % dice(n))
}

func pick[T any](d *dice, l ...T) T {
	return l[d.below(len(l))]
}

// disk is a device that may be, fuller or emptier.
func (d *dice) disk(id int) api.Device {
	letters := ""
	full := pick(d, 2, 5, 20)
	for range pick(d, 1, 2, 5, 8, 13, api.MaxSize) {
		if d.below(full) > 0 {
			letters += "."
		} else {
			letters += pick(d, "f", "l", ".")
		}
	}
	return diskOf(id, letters)
}

// target is what entries lead to: a device or a table.
type target struct {
	id, size int
	starts   []int
}

// entries are some that may be, from sectors below end to those targets, often to where one of these leads on.
func (d *dice) entries(end int, to []target) (l []api.Entry) {
	gaps, stale := pick(d, 1, 2, 5), pick(d, 1, 4)
	for n := 0; n < end; {
		if d.below(gaps+1) == 0 {
			n++
			continue
		}
		t := to[d.below(len(to))]
		x := api.Entry{From: n, Len: min(end-n, pick(d, 1, 2, 3, 5)), Dev: t.id, To: d.below(t.size)}
		if len(t.starts) > 0 {
			x.To = pick(d, t.starts...)
		}
		if d.below(20) == 0 {
			x.To = d.below(api.MaxSize)
		}
		x.Len = min(x.Len, api.MaxSize-x.To)
		if d.below(stale) == 0 {
			x.Stale = d.below(x.Len + 1)
		}
		l, n = append(l, x), n+x.Len
	}
	return l
}

// pool is one that may be: its tables lead to devices, and to tables by greater and by lesser numbers.
func (d *dice) pool() (p api.Pool) {
	var gone []int
	many := pick(d, 1, 3, 8)
	for id := 1; id <= api.MaxIDs; id++ {
		switch {
		case len(p.Devices) < api.MaxDevices && d.below(11) == 0:
			p.Devices = append(p.Devices, d.disk(id))
		case len(gone) < api.MaxTables && d.below(20) < many:
			gone = slices.Insert(gone, d.below(len(gone)+1), id)
		}
	}
	if len(p.Devices) == 0 {
		p.Devices = append(p.Devices, d.disk(api.MaxIDs))
		gone = slices.DeleteFunc(gone, func(id int) bool { return id == api.MaxIDs })
	}
	var to []target
	for _, x := range p.Devices {
		to = append(to, target{id: x.ID, size: x.Size})
	}
	// In the order of gone, each table leads to such as are done already.
	for _, id := range gone {
		t := tableOf(id, pick(d, 1, 3, 8, 13, api.MaxSize))
		t.List = d.entries(t.Size, to[max(0, len(to)-pick(d, 2, 4, 20)):])
		p.Tables = append(p.Tables, t)
		x := target{id: id, size: t.Size}
		for _, y := range t.List {
			x.starts = append(x.starts, y.From)
		}
		to = append(to, x)
	}
	slices.SortFunc(p.Tables, func(a, b api.Table) int { return a.Dev - b.Dev })
	p.Job = d.job(p.Devices)
	top := max(p.Devices[len(p.Devices)-1].ID, slices.Max(append(gone, 0)))
	p.Next = pick(d, top+1, api.MaxIDs+1, top+1+d.below(api.MaxIDs+1-top))
	return p
}

func (d *dice) job(l []api.Device) api.Job {
	if len(l) == 1 || d.below(4) == 0 {
		return api.Job{}
	}
	of := pick(d, l...)
	var to []target
	for _, x := range l {
		if x.ID != of.ID {
			to = append(to, target{id: x.ID, size: x.Size})
		}
	}
	j := jobOf(of.ID, of.Size, pick(d, 0, of.Size/2, of.Size-1, d.below(of.Size)))
	j.Table.List = d.entries(j.At, to)
	return j
}

// place is one of a pool's, most often of an entry or of a device that is there.
func (d *dice) place(p api.Pool) api.Ptr {
	if len(p.Tables) > 0 && d.below(3) > 0 {
		if t := pick(d, p.Tables...); len(t.List) > 0 && d.below(9) > 0 {
			x := pick(d, t.List...)
			return at(t.Dev, x.From+d.below(x.Len))
		} else {
			return at(t.Dev, d.below(t.Size+3)-1)
		}
	}
	if p.Job.At > 0 && d.below(2) == 0 {
		return at(p.Job.Dev, d.below(p.Job.At+1))
	}
	if d.below(20) == 0 {
		return at(d.below(api.MaxIDs+3)-1, d.below(api.MaxSize))
	}
	x := pick(d, p.Devices...)
	return at(x.ID, d.below(x.Size+3)-1)
}

func (d *dice) op(p api.Pool) op {
	o := op{kind: pick(d, kinds()[1:]...)}
	many := 1
	if o.kind == "lose" {
		many = pick(d, 0, 1, 1, 2, 3)
	}
	for range many {
		o.q = append(o.q, d.place(p))
	}
	return o
}

// number is one to put where another one was.
func (d *dice) number(was int) int {
	return pick(d, was+1, was-1, 0, 1, 40, 41, 63, 64, 65, d.below(50), -1, 1<<62, -1<<62)
}

// turned is a pool of which one thing is another: it may not be then, as often as not.
func (d *dice) turned(p api.Pool) api.Pool {
	p = twin(p)
	turn := func(n *int) { *n = d.number(*n) }
	t := &p.Job.Table
	if len(p.Tables) > 0 && d.below(2) > 0 {
		t = &p.Tables[d.below(len(p.Tables))]
	}
	switch d.below(13) {
	case 0:
		turn(&p.Next)
	case 1:
		turn(&p.Devices[d.below(len(p.Devices))].ID)
	case 2:
		turn(&p.Devices[d.below(len(p.Devices))].Size)
	case 3:
		i := d.below(len(p.Devices))
		p.Devices = slices.Delete(p.Devices, i, i+1)
	case 4:
		turn(&t.Dev)
	case 5:
		turn(&t.Size)
	case 6, 7, 8:
		d.turnEntry(t)
	case 9:
		turn(&p.Job.At)
	case 10:
		turn(&p.Job.Dev)
	case 11:
		p.Job = d.job(d.pool().Devices)
	case 12:
		p.Tables = append(p.Tables, tableOf(pick(d, p.Next-1, d.below(api.MaxIDs)+1), 5))
	}
	return p
}

func (d *dice) turnEntry(t *api.Table) {
	if len(t.List) == 0 {
		t.List = tableOf(1, 9, 0, 1, 2, 0, 0).List
	}
	x := &t.List[d.below(len(t.List))]
	switch d.below(6) {
	case 0:
		x.Len++
	case 1:
		x.To = d.number(x.To)
	case 2:
		x.Stale = d.number(x.Stale)
	default:
		x.Dev = d.below(api.MaxIDs) + 1
	}
}
