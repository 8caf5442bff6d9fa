package chain_test

import (
	"fmt"
	"slices"
	"testing"

	"hermitage/api"
	"hermitage/chain"
	"hermitage/room"
	"hermitage/table"
)

// op is a call: its kind; the places (of old, now and way just one).
type op struct {
	kind string
	q    []api.Ptr
}

func kinds() []string {
	return []string{"check", "old", "now", "way", "lose"}
}

// answer is all that a call tells.
type answer struct {
	q api.Ptr
	w []int
	p api.Pool
	e api.Errno
}

// told is all of it as a text; a nil list and an empty one are one.
func (a answer) told() string {
	return fmt.Sprint(a.e, " ", a.q, " ", a.w, " ", a.p)
}

// do lets the program do it.
func do(p api.Pool, o op) (a answer) {
	switch o.kind {
	case "check":
		a.e = chain.Check(p)
	case "old":
		a.q, a.e = chain.Old(p, o.q[0])
	case "now":
		a.q, a.e = chain.Now(p, o.q[0])
	case "way":
		a.w, a.e = chain.Way(p, o.q[0])
	case "lose":
		a.p, a.e = chain.Lose(p, o.q...)
	}
	return a
}

// holds asks for what one call is to tell.
func holds(t *testing.T, what string, p api.Pool, o op, want answer) {
	t.Helper()
	if a := do(p, o); a.told() != want.told() {
		t.Errorf("%s: %v of %v: %s: not %s", what, o, p, a.told(), want.told())
	}
}

// at is a place.
func at(dev, n int) api.Ptr {
	return api.Ptr{Dev: dev, At: n}
}

// ptrs is one place of each two numbers.
func ptrs(x ...int) (l []api.Ptr) {
	for i := 0; i+1 < len(x); i += 2 {
		l = append(l, at(x[i], x[i+1]))
	}
	return l
}

// tableOf is one with an entry of each five numbers: From, Len, Dev, To, Stale.
func tableOf(dev, size int, x ...int) api.Table {
	t := api.Table{Dev: dev, Size: size}
	for i := 0; i+4 < len(x); i += 5 {
		t.List = append(t.List, api.Entry{From: x[i], Len: x[i+1], Dev: x[i+2], To: x[i+3], Stale: x[i+4]})
	}
	return t
}

// jobOf is one, its entries as tableOf says.
func jobOf(dev, size, upTo int, x ...int) api.Job {
	return api.Job{Dev: dev, At: upTo, Table: tableOf(dev, size, x...)}
}

// diskOf is a device whose first sector is what the first letter says: f free, l late, else used.
func diskOf(id int, letters string) api.Device {
	return api.Device{ID: id, Size: len(letters), Free: segments(letters, 'f'), Late: segments(letters, 'l')}
}

func segments(letters string, what rune) (l []api.Seg) {
	for n, c := range letters {
		if c != what {
			continue
		}
		if i := len(l) - 1; i >= 0 && l[i].At+l[i].Len == n {
			l[i].Len++
		} else {
			l = append(l, api.Seg{At: n, Len: 1})
		}
	}
	return l
}

// lettersOf is what diskOf makes the device of.
func lettersOf(d api.Device) string {
	l := slices.Repeat([]byte{'.'}, d.Size)
	for _, s := range d.Free {
		copy(l[s.At:], slices.Repeat([]byte{'f'}, s.Len))
	}
	for _, s := range d.Late {
		copy(l[s.At:], slices.Repeat([]byte{'l'}, s.Len))
	}
	return string(l)
}

// sample is a pool whose tables lead up and down (1 to 8, 8 to 5, 5 to what is there); 3 is emptied, up to sector 5.
func sample() api.Pool {
	return api.Pool{
		Devices: []api.Device{diskOf(2, ".....ffl.."), diskOf(3, ".l...lf."), diskOf(9, "...........f")},
		Tables: []api.Table{
			tableOf(1, 6, 0, 2, 8, 2, 0, 3, 2, 3, 1, 1),
			tableOf(5, 9, 0, 4, 3, 3, 1, 6, 3, 9, 10, 0),
			tableOf(8, 20, 2, 3, 5, 1, 0, 5, 1, 2, 9, 0, 10, 3, 5, 7, 2, 15, 2, 2, 0, 2),
		},
		Job:  jobOf(3, 8, 5, 0, 2, 9, 0, 0, 3, 2, 2, 3, 0),
		Next: 10,
	}
}

// twin is a copy of all of it.
func twin(p api.Pool) api.Pool {
	p.Devices, p.Tables = slices.Clone(p.Devices), slices.Clone(p.Tables)
	for i, d := range p.Devices {
		p.Devices[i].Free, p.Devices[i].Late = slices.Clone(d.Free), slices.Clone(d.Late)
	}
	for i, t := range p.Tables {
		p.Tables[i].List = slices.Clone(t.List)
	}
	p.Job.Table.List = slices.Clone(p.Job.Table.List)
	return p
}

// hop is where a sector of a table leads to, by which entry.
type hop struct {
	to api.Ptr
	by *api.Entry
}

// world is a pool as the tests keep it: what each sector that is there is; where each sector of an entry leads to.
type world struct {
	pool  api.Pool
	is    map[api.Ptr]byte
	gone  map[int]bool
	leads map[api.Ptr]hop
	moved map[api.Ptr]hop
}

// hops are those of a table's entries.
func hops(t api.Table) map[api.Ptr]hop {
	m := map[api.Ptr]hop{}
	for i, x := range t.List {
		for n := range x.Len {
			m[at(t.Dev, x.From+n)] = hop{at(x.Dev, x.To+n), &t.List[i]}
		}
	}
	return m
}

// worldOf is what the document's words make of a pool; false, if it may not be.
func worldOf(p api.Pool) (world, bool) {
	if !mayBe(p) {
		return world{}, false
	}
	w := world{pool: twin(p), is: map[api.Ptr]byte{}, gone: map[int]bool{}, leads: map[api.Ptr]hop{}}
	for _, d := range w.pool.Devices {
		for n, c := range []byte(lettersOf(d)) {
			w.is[at(d.ID, n)] = c
		}
	}
	for _, t := range w.pool.Tables {
		w.gone[t.Dev] = true
		for q, h := range hops(t) {
			w.leads[q] = h
		}
	}
	w.moved = hops(w.pool.Job.Table)
	return w, true
}

func mayBe(p api.Pool) bool {
	if room.Check(p.Devices) != api.OK || len(p.Tables) > api.MaxTables {
		return false
	}
	what, top := map[int]string{}, 0
	for _, d := range p.Devices {
		what[d.ID], top = "device", max(top, d.ID)
	}
	for i, t := range p.Tables {
		if table.Check(t) != api.OK || what[t.Dev] != "" || i > 0 && p.Tables[i-1].Dev >= t.Dev {
			return false
		}
		what[t.Dev], top = "table", max(top, t.Dev)
	}
	for _, t := range p.Tables {
		for _, x := range t.List {
			if what[x.Dev] == "" {
				return false
			}
		}
	}
	return p.Next > top && p.Next <= 41 && !goesRound(p.Tables) && jobMayBe(p, what)
}

// goesRound tells whether a table leads to itself, by however many others.
func goesRound(tables []api.Table) bool {
	var leads [api.MaxIDs + 1][api.MaxIDs + 1]bool
	for _, t := range tables {
		for _, x := range t.List {
			leads[t.Dev][x.Dev] = true
		}
	}
	for _, by := range tables {
		for _, from := range tables {
			for _, to := range tables {
				if leads[from.Dev][by.Dev] && leads[by.Dev][to.Dev] {
					leads[from.Dev][to.Dev] = true
				}
			}
		}
	}
	return slices.ContainsFunc(tables, func(t api.Table) bool { return leads[t.Dev][t.Dev] })
}

func jobMayBe(p api.Pool, what map[int]string) bool {
	j := p.Job
	if j.Dev == 0 {
		return fmt.Sprint(j) == fmt.Sprint(api.Job{}) && len(p.Devices) > 0
	}
	i := slices.IndexFunc(p.Devices, func(d api.Device) bool { return d.ID == j.Dev })
	if i < 0 || j.At < 0 || j.At >= p.Devices[i].Size || len(p.Devices) == 1 {
		return false
	}
	if j.Table.Dev != j.Dev || j.Table.Size != p.Devices[i].Size || table.Check(j.Table) != api.OK {
		return false
	}
	for _, x := range j.Table.List {
		if x.From+x.Len > j.At || what[x.Dev] != "device" || x.Dev == j.Dev {
			return false
		}
	}
	return true
}

// old is where q leads to by the tables of devices that are gone, and the hops; false, if nowhere.
func (w world) old(q api.Ptr) (api.Ptr, []hop, []int, bool) {
	var by []hop
	var devs []int
	for w.gone[q.Dev] {
		h, is := w.leads[q]
		if !is {
			return api.Ptr{}, nil, nil, false
		}
		by, devs, q = append(by, h), append(devs, q.Dev), h.to
	}
	return q, by, devs, w.is[q] != 0
}

func (w world) now(q api.Ptr) (api.Ptr, []hop, []int, bool) {
	q, by, devs, is := w.old(q)
	if is && q.Dev == w.pool.Job.Dev && q.At < w.pool.Job.At {
		h := w.moved[q]
		by, devs, q = append(by, h), append(devs, q.Dev), h.to
	}
	return q, by, devs, is && w.is[q] != 0
}

// lose takes what lies at q away, or tells what the document asks for.
func (w world) lose(q api.Ptr) api.Errno {
	q, by, _, is := w.now(q)
	if !is {
		return api.ErrNone
	}
	for _, h := range by {
		if h.by.Stale == h.by.Len {
			return api.ErrState
		}
		h.by.Stale++
	}
	if w.is[q] != '.' {
		return api.ErrThere
	}
	w.is[q] = 'l'
	return api.OK
}

// drawn is the pool with what its sectors are now.
func (w world) drawn() api.Pool {
	p := w.pool
	for i, d := range p.Devices {
		var l []byte
		for n := range d.Size {
			l = append(l, w.is[at(d.ID, n)])
		}
		p.Devices[i] = diskOf(d.ID, string(l))
	}
	return p
}

// wanted is what the document asks for.
func wanted(p api.Pool, o op) (a answer) {
	w, mayBe := worldOf(p)
	if !mayBe {
		return answer{e: api.ErrForm}
	}
	var is bool
	switch o.kind {
	case "check":
		return answer{}
	case "old":
		a.q, _, _, is = w.old(o.q[0])
	case "now":
		a.q, _, _, is = w.now(o.q[0])
	case "way":
		_, _, a.w, is = w.now(o.q[0])
	case "lose":
		for _, q := range o.q {
			if e := w.lose(q); e != api.OK {
				return answer{e: e}
			}
		}
		return answer{p: w.drawn()}
	}
	if !is {
		return answer{e: api.ErrNone}
	}
	return a
}
