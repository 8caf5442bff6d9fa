package chain_test

import (
	"math"
	"slices"
	"testing"

	"hermitage/api"
)

// form is a pool that may not be.
type form struct {
	what string
	p    api.Pool
}

// forms are each wrong in one thing.
func forms() []form {
	return slices.Concat(wrongDevices(), wrongTables(), wrongWays(), wrongNext(), wrongJobs(), noJobs())
}

// turned is the sample, or another pool, of which one thing is another.
func turned(what string, p api.Pool, turn func(p *api.Pool)) form {
	p = twin(p)
	turn(&p)
	return form{what, p}
}

func wrongDevices() (all []form) {
	for i := range sample().Devices {
		for _, turn := range []func(d *api.Device){
			func(d *api.Device) { *d = api.Device{} },
			func(d *api.Device) { d.ID = 0 },
			func(d *api.Device) { d.ID = 41 },
			func(d *api.Device) { d.Size = 0 },
			func(d *api.Device) { d.Size = 65 },
			func(d *api.Device) { d.Free = []api.Seg{{At: 0, Len: 65}} },
			func(d *api.Device) { d.Free, d.Late = []api.Seg{{At: 0, Len: 2}}, []api.Seg{{At: 1, Len: 1}} },
			func(d *api.Device) { d.Late = []api.Seg{{At: -1, Len: 1}} },
		} {
			all = append(all, turned("device", sample(), func(p *api.Pool) { turn(&p.Devices[i]) }))
		}
	}
	no := api.Pool{Next: 1}
	seven := api.Pool{Next: 8}
	for id := range 7 {
		seven.Devices = append(seven.Devices, diskOf(id+1, "."))
	}
	return append(all, form{"nothing at all", api.Pool{}}, form{"no device", no}, form{"one device too many", seven},
		form{"no device, but a table", api.Pool{Tables: []api.Table{tableOf(1, 1)}, Next: 2}},
		turned("falling devices", sample(), func(p *api.Pool) { slices.Reverse(p.Devices) }),
		turned("twice a device", sample(), func(p *api.Pool) { p.Devices = append(p.Devices, p.Devices[2]) }))
}

func wrongTables() (all []form) {
	for i := range sample().Tables {
		for _, turn := range []func(t *api.Table){
			func(t *api.Table) { *t = api.Table{} },
			func(t *api.Table) { t.Dev = 0 },
			func(t *api.Table) { t.Dev = math.MinInt },
			func(t *api.Table) { t.Dev = 41 },
			func(t *api.Table) { t.Dev = math.MaxInt },
			func(t *api.Table) { t.Size = 1 },
			func(t *api.Table) { t.Size = 65 },
			func(t *api.Table) { t.List[1].Len = 0 },
			func(t *api.Table) { t.List[1].Len = math.MaxInt },
			func(t *api.Table) { t.List[1].From = t.List[0].From },
			func(t *api.Table) { t.List[1].Stale = t.List[1].Len + 1 },
			func(t *api.Table) { t.List[1].To = 64 },
			// To itself, at once.
			func(t *api.Table) { t.List[1].Dev = t.Dev },
			// To what is neither a device nor a table.
			func(t *api.Table) { t.List[0].Dev = 4 },
			func(t *api.Table) { t.List[1].Dev = 4 },
			func(t *api.Table) { t.List[1].Dev = 10 },
			func(t *api.Table) { t.List[1].Dev = 40 },
			func(t *api.Table) { t.List[1].Dev = 0 },
			func(t *api.Table) { t.List[1].Dev = math.MaxInt },
			func(t *api.Table) { t.List[1].Dev = -1 },
		} {
			all = append(all, turned("table", sample(), func(p *api.Pool) { turn(&p.Tables[i]) }))
		}
	}
	one := api.Pool{Devices: []api.Device{diskOf(5, ".")}, Next: 41}
	for what, l := range map[string][]api.Table{
		"of a device that is there":         {tableOf(5, 1)},
		"the last one of one that is there": {tableOf(4, 1), tableOf(5, 1)},
		"falling":                           {tableOf(9, 1), tableOf(4, 1)},
		"falling at the end":                {tableOf(4, 1), tableOf(9, 1), tableOf(8, 1)},
		"twice":                             {tableOf(4, 1), tableOf(4, 1)},
		"twice at the end":                  {tableOf(4, 1), tableOf(9, 1), tableOf(9, 1)},
		"one too many":                      row(6, api.MaxTables+1, 5),
		"all there can be":                  row(6, 35, 5),
	} {
		all = append(all, turned(what, one, func(p *api.Pool) { p.Tables = l }))
	}
	return all
}

// wrongWays are pools each table of which may be, alone: it leads to a device or to a table.
func wrongWays() (all []form) {
	p := api.Pool{Devices: []api.Device{diskOf(1, ".."), diskOf(2, "..")}, Next: 41}
	for what, l := range map[string][]api.Table{
		"two":                        {tableOf(3, 2, 0, 1, 4, 0, 0), tableOf(4, 2, 0, 1, 3, 0, 0)},
		"two, by other sectors":      {tableOf(3, 2, 0, 1, 4, 1, 0), tableOf(4, 2, 0, 1, 3, 1, 0)},
		"two, by stale ones":         {tableOf(3, 2, 0, 1, 4, 0, 1), tableOf(4, 2, 0, 1, 3, 0, 1)},
		"two, by what is no sector":  {tableOf(3, 2, 0, 1, 4, 9, 0), tableOf(4, 2, 0, 1, 3, 9, 0)},
		"two, by a last entry":       {tableOf(3, 9, 0, 1, 1, 0, 0, 2, 1, 2, 0, 0, 4, 1, 4, 0, 0), tableOf(4, 9, 0, 1, 2, 0, 0, 1, 1, 3, 0, 0)},
		"two, ahead of one that is":  {tableOf(3, 2, 0, 1, 4, 0, 0), tableOf(4, 2, 0, 1, 3, 0, 0), tableOf(9, 2, 0, 1, 1, 0, 0)},
		"two, behind one that is":    {tableOf(3, 2, 0, 1, 1, 0, 0), tableOf(7, 2, 0, 1, 8, 0, 0), tableOf(8, 2, 0, 1, 7, 0, 0)},
		"two, and one that leads in": {tableOf(3, 2, 0, 1, 7, 0, 0), tableOf(7, 2, 0, 1, 8, 0, 0), tableOf(8, 2, 0, 1, 7, 0, 0)},
		"two, that lead out, too":    {tableOf(3, 2, 0, 1, 4, 0, 0, 1, 1, 5, 0, 0), tableOf(4, 2, 0, 1, 3, 0, 0, 1, 1, 1, 0, 0), tableOf(5, 2, 0, 1, 2, 0, 0)},
		"three, up":                  {tableOf(3, 2, 0, 1, 4, 0, 0), tableOf(4, 2, 0, 1, 5, 0, 0), tableOf(5, 2, 0, 1, 3, 0, 0)},
		"three, down":                {tableOf(3, 2, 0, 1, 5, 0, 0), tableOf(4, 2, 0, 1, 3, 0, 0), tableOf(5, 2, 0, 1, 4, 0, 0)},
		"all":                        row(3, api.MaxTables, 3),
		"all but the first":          row(3, api.MaxTables, 4),
		"the last two":               row(3, api.MaxTables, 13),
	} {
		all = append(all, turned("round: "+what, p, func(p *api.Pool) { p.Tables = l }))
	}
	return all
}

func wrongNext() (all []form) {
	for _, n := range []int{9, 8, 0, -1, api.MaxIDs + 2, api.MaxIDs + 3, math.MinInt, math.MaxInt, 1<<32 + 10} {
		all = append(all, turned("Next, of a device", sample(), func(p *api.Pool) { p.Next = n }))
	}
	for _, n := range []int{12, 11, 10, 9, 1, 0, api.MaxIDs + 2, math.MinInt, math.MaxInt} {
		all = append(all, turned("Next, of a table", sample(), func(p *api.Pool) { p.Tables, p.Next = append(p.Tables, tableOf(12, 1)), n }))
	}
	full := api.Pool{Devices: []api.Device{diskOf(40, ".")}, Next: 40}
	return append(all, form{"Next, of all", full}, turned("Next, of all", full, func(p *api.Pool) { p.Next = 42 }))
}

func wrongJobs() (all []form) {
	for _, turn := range []func(p *api.Pool){
		// Of no device: of one that is gone, that never was, of none.
		func(p *api.Pool) { p.Job = jobOf(5, 9, 5) },
		func(p *api.Pool) { p.Job = jobOf(4, 8, 5) },
		func(p *api.Pool) { p.Job = jobOf(10, 8, 5) },
		func(p *api.Pool) { p.Job.Dev = 5 },
		func(p *api.Pool) { p.Job.Dev = -1 },
		func(p *api.Pool) { p.Job.Dev = 0 },
		func(p *api.Pool) { p.Job.Dev = math.MaxInt },
		// Of another one than its table.
		func(p *api.Pool) { p.Job.Dev = 2 },
		func(p *api.Pool) { p.Job.Dev = 9 },
		func(p *api.Pool) { p.Job.Table.Dev = 2 },
		func(p *api.Pool) { p.Job.Table = tableOf(9, 8) },
		func(p *api.Pool) { p.Job.Table = tableOf(4, 8) },
		func(p *api.Pool) { p.Job.Table = tableOf(5, 8) },
		func(p *api.Pool) { p.Job.Table = api.Table{} },
		func(p *api.Pool) { p.Job.Table = tableOf(3, 7) },
		func(p *api.Pool) { p.Job.Table = tableOf(3, 9) },
		func(p *api.Pool) { p.Job.Table.Dev = 0 },
		func(p *api.Pool) { p.Job.Table.Size = 0 },
		// A table that may not be.
		func(p *api.Pool) { p.Job.Table.List[0].Len = 4 },
		func(p *api.Pool) { p.Job.Table.List[0].Stale = 3 },
		func(p *api.Pool) { p.Job.Table.List[1].Len = math.MaxInt },
		func(p *api.Pool) { p.Job.Table.List[1].Len = 0 },
		func(p *api.Pool) { p.Job.Table.List[1].To = 63 },
		func(p *api.Pool) { p.Job.Table.List[0], p.Job.Table.List[1] = p.Job.Table.List[1], p.Job.Table.List[0] },
		// Entries above At.
		func(p *api.Pool) { p.Job.At = 4 },
		func(p *api.Pool) { p.Job.At = 0 },
		func(p *api.Pool) { p.Job.Table.List[1].Len = 3 },
		func(p *api.Pool) { p.Job.Table.List[1].From = 4 },
		func(p *api.Pool) { p.Job = jobOf(3, 8, 0, 0, 1, 2, 0, 0) },
		func(p *api.Pool) { p.Job = jobOf(3, 8, 6, 7, 1, 2, 0, 0) },
		// Entries to its own device, to one that is gone, to one that never was.
		func(p *api.Pool) { p.Job.Table.List[0].Dev = 3 },
		func(p *api.Pool) { p.Job.Table.List[1].Dev = 3 },
		func(p *api.Pool) { p.Job.Table.List[0].Dev = 5 },
		func(p *api.Pool) { p.Job.Table.List[1].Dev = 8 },
		func(p *api.Pool) { p.Job.Table.List[1].Dev = 4 },
		func(p *api.Pool) { p.Job.Table.List[1].Dev = 10 },
		func(p *api.Pool) { p.Job.Table.List[1].Dev = 0 },
		// Its device alone.
		func(p *api.Pool) { p.Devices, p.Tables, p.Job = p.Devices[1:2], nil, jobOf(3, 8, 5) },
		func(p *api.Pool) { p.Devices, p.Tables, p.Job = p.Devices[1:2], nil, jobOf(3, 8, 0) },
	} {
		all = append(all, turned("job", sample(), turn))
	}
	for _, n := range []int{8, 9, 64, -1, math.MinInt, math.MaxInt, 1<<32 + 5} {
		all = append(all, turned("At", sample(), func(p *api.Pool) { p.Job.At = n }), turned("At, without entries", sample(), func(p *api.Pool) { p.Job = jobOf(3, 8, n) }))
	}
	return all
}

// noJobs are Dev 0 with anything else.
func noJobs() (all []form) {
	for _, j := range []api.Job{
		jobOf(0, 0, 1), jobOf(0, 0, -1), jobOf(0, 0, 5), jobOf(0, 1, 0), jobOf(0, -1, 0), jobOf(0, 4, 0), jobOf(0, 0, 0, 0, 0, 0, 0, 0), jobOf(0, 0, 0, 0, 1, 4, 0, 0),
		{Table: tableOf(1, 0)}, {Table: tableOf(-1, 0)}, {Table: tableOf(1, 4)}, {Table: tableOf(4, 5)}, {At: 1, Table: tableOf(1, 4)},
	} {
		for _, p := range []api.Pool{sample(), plain()} {
			all = append(all, turned("no job", p, func(p *api.Pool) { p.Job = j }))
		}
	}
	return all
}

// P9.1, P9.2: ErrForm of a pool that may not be, ahead of all, and nothing beside it.
func TestForms(t *testing.T) {
	for _, f := range forms() {
		if mayBe(f.p) {
			t.Fatalf("%s: may be: %v", f.what, f.p)
		}
		for _, kind := range kinds() {
			for _, q := range [][]api.Ptr{ptrs(2, 0), ptrs(1, 0), ptrs(3, 1), ptrs(0, 0), ptrs(math.MaxInt, math.MinInt), ptrs(2, 0, 2, 0), ptrs(9, 99, 2, 0)} {
				holds(t, f.what, f.p, op{kind, q}, answer{e: api.ErrForm})
			}
		}
		holds(t, f.what, f.p, op{"lose", nil}, answer{e: api.ErrForm})
	}
}

// P9.2: errors of Lose, one by one, in order: the first place that errs tells, and nothing beside it.
func TestLoseErrors(t *testing.T) {
	for i, c := range []struct {
		q []api.Ptr
		e api.Errno
	}{
		{ptrs(10, 0), api.ErrNone}, {ptrs(2, 10), api.ErrNone}, {ptrs(3, 2), api.ErrNone}, {ptrs(1, 4), api.ErrNone}, {ptrs(8, 11), api.ErrNone},
		{ptrs(2, 0, 10, 0), api.ErrNone}, {ptrs(1, 0, 8, 5, 3, 2), api.ErrNone}, {ptrs(2, 0, 2, -1), api.ErrNone},
		// What lies there is stale altogether, or comes to be.
		{ptrs(8, 15), api.ErrState}, {ptrs(8, 16), api.ErrState}, {ptrs(2, 3, 8, 15), api.ErrState}, {ptrs(1, 3, 1, 3), api.ErrState}, {ptrs(8, 5, 8, 5), api.ErrState}, {ptrs(3, 0, 3, 1, 3, 0), api.ErrState},
		// Free, late, late by then.
		{ptrs(2, 5), api.ErrThere}, {ptrs(2, 7), api.ErrThere}, {ptrs(3, 5), api.ErrThere}, {ptrs(3, 6), api.ErrThere}, {ptrs(8, 10), api.ErrThere}, {ptrs(1, 1), api.ErrThere},
		{ptrs(2, 0, 2, 5), api.ErrThere}, {ptrs(2, 0, 2, 7), api.ErrThere}, {ptrs(2, 0, 8, 5, 1, 1), api.ErrThere},
		{ptrs(2, 0, 2, 0), api.ErrThere}, {ptrs(2, 0, 1, 3, 2, 0), api.ErrThere}, {ptrs(3, 0, 3, 0), api.ErrThere}, {ptrs(3, 0, 9, 0), api.ErrThere}, {ptrs(9, 0, 3, 0), api.ErrThere}, {ptrs(1, 0, 8, 2), api.ErrThere}, {ptrs(2, 9, 8, 5), api.ErrThere},
		// A table's error ahead of the sector's: it is late by then.
		{ptrs(2, 0, 8, 15), api.ErrState},
		// In order.
		{ptrs(10, 0, 8, 15, 2, 5), api.ErrNone}, {ptrs(8, 15, 10, 0, 2, 5), api.ErrState}, {ptrs(2, 5, 10, 0, 8, 15), api.ErrThere}, {ptrs(2, 0, 2, 0, 10, 0), api.ErrThere}, {ptrs(2, 0, 10, 0, 2, 0), api.ErrNone},
	} {
		p := sample()
		if a := do(p, op{"lose", c.q}); a.told() != (answer{e: c.e}).told() {
			t.Errorf("%d: %s: not %v", i, a.told(), c.e)
		}
		if (answer{p: p}).told() != (answer{p: sample()}).told() {
			t.Fatalf("%d: changed: %v", i, p)
		}
	}
}

// P9.2: a table's error, whichever it is of those on the way, and of one that is passed by none.
func TestLoseState(t *testing.T) {
	full := func(tables ...int) api.Pool {
		p := sample()
		for _, i := range tables {
			l := p.Job.Table.List
			if i < len(p.Tables) {
				l = p.Tables[i].List
			}
			for k := range l {
				l[k].Stale = l[k].Len
			}
		}
		return p
	}
	for _, c := range []struct {
		stale []int
		q     []api.Ptr
		e     api.Errno
	}{
		{[]int{0}, ptrs(1, 0), api.ErrState}, {[]int{1}, ptrs(1, 0), api.ErrState}, {[]int{2}, ptrs(1, 0), api.ErrState}, {[]int{3}, ptrs(1, 0), api.ErrState}, {[]int{0, 1, 2, 3}, ptrs(1, 0), api.ErrState},
		{[]int{3}, ptrs(3, 0), api.ErrState}, {[]int{3}, ptrs(2, 0, 3, 0), api.ErrState}, {[]int{1}, ptrs(8, 10), api.ErrState}, {[]int{1}, ptrs(1, 1), api.ErrState},
		// Where nothing is, nothing is stale.
		{[]int{1, 2}, ptrs(8, 11), api.ErrNone}, {[]int{0}, ptrs(1, 4), api.ErrNone}, {[]int{0, 3}, ptrs(1, 2), api.ErrNone},
		// On another way.
		{[]int{0, 2, 3}, ptrs(5, 2), api.ErrThere}, {[]int{1, 2}, ptrs(1, 3), api.OK}, {[]int{0, 1, 2, 3}, ptrs(2, 0), api.OK},
	} {
		p := full(c.stale...)
		want := wanted(p, op{"lose", c.q})
		if want.e != c.e {
			t.Errorf("%v, %v: the tests' own words tell %v", c.stale, c.q, want.e)
		}
		holds(t, "stale", p, op{"lose", c.q}, want)
	}
}

// R1: lists of any length end, too.
func TestLong(t *testing.T) {
	p := plain()
	p.Devices = slices.Repeat(p.Devices, 1<<18)
	long := []api.Pool{p}
	p = plain()
	p.Tables = slices.Repeat([]api.Table{tableOf(2, 4, 0, 1, 1, 0, 0)}, 1<<18)
	long = append(long, p)
	p = plain()
	p.Tables = []api.Table{{Dev: 2, Size: 64, List: make([]api.Entry, 1<<18)}}
	for i := range 1 << 18 {
		p.Tables[0].List[i] = api.Entry{From: i, Len: 1, Dev: 1}
	}
	long = append(long, p)
	p = plain()
	p.Job = api.Job{Dev: 4, At: 4, Table: api.Table{Dev: 4, Size: 5, List: long[2].Tables[0].List}}
	long = append(long, p)
	p.Job = api.Job{Table: api.Table{List: long[2].Tables[0].List}}
	long = append(long, p)
	for _, p := range long {
		for _, kind := range kinds() {
			if a := do(p, op{kind, ptrs(1, 0)}); a.told() != (answer{e: api.ErrForm}).told() {
				t.Errorf("%s: %v", kind, a.e)
			}
		}
	}
	many := slices.Repeat(ptrs(4, 0, 4, 1, 4, 2), 1<<18)
	if a := do(plain(), op{"lose", many}); a.told() != (answer{e: api.ErrThere}).told() {
		t.Errorf("many: %v", a.e)
	}
}
