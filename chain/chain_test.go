package chain_test

import (
	"math"
	"testing"

	"hermitage/api"
	"hermitage/chain"
)

// plain is a pool without tables and without a job.
func plain() api.Pool {
	return api.Pool{Devices: []api.Device{diskOf(1, "..f."), diskOf(4, "....l")}, Next: 5}
}

// P9.1: the document's example.
func TestExample(t *testing.T) {
	for _, q := range ptrs(1, 0, 1, 2, 1, 3, 4, 0, 4, 4) {
		if x, e := chain.Now(plain(), q); x != q || e != api.OK {
			t.Errorf("%v: %v, %v", q, x, e)
		}
	}
}

// row is tables, each leading to the next one, the last one to a device.
func row(first, many, dev int) (l []api.Table) {
	for i := range many {
		to := first + i + 1
		if i == many-1 {
			to = dev
		}
		l = append(l, tableOf(first+i, 2, 1, 1, to, 1, 0))
	}
	return l
}

// P9.1: pools that may be, at the edges.
func TestCheck(t *testing.T) {
	one, two := []api.Device{diskOf(1, "..")}, []api.Device{diskOf(1, ".."), diskOf(40, "f.l")}
	six := []api.Device{diskOf(1, "."), diskOf(2, "."), diskOf(3, "."), diskOf(4, "."), diskOf(5, "."), diskOf(6, ".")}
	for i, p := range []api.Pool{
		sample(), plain(),
		{Devices: one, Next: 2}, {Devices: one, Next: 3}, {Devices: one, Next: api.MaxIDs + 1}, {Devices: six, Next: 7},
		// Next right above a device's ID, a table's.
		{Devices: two, Next: 41}, {Devices: one, Tables: []api.Table{tableOf(40, 1)}, Next: 41}, {Devices: one, Tables: []api.Table{tableOf(7, 64)}, Next: 8}, {Devices: two, Tables: []api.Table{tableOf(7, 64)}, Next: 41},
		// Tables of numbers below and above those of the devices that are there; as many as may be, one behind the other.
		{Devices: []api.Device{diskOf(5, ".")}, Tables: []api.Table{tableOf(2, 4, 1, 1, 5, 63, 0), tableOf(9, 4)}, Next: 10},
		{Devices: one, Tables: row(2, api.MaxTables, 1), Next: 14}, {Devices: one, Tables: row(29, api.MaxTables, 1), Next: 41},
		// Several entries to one table, and more ways than one to it.
		{Devices: one, Tables: []api.Table{tableOf(2, 9, 0, 1, 3, 0, 0, 1, 1, 4, 0, 0, 3, 1, 3, 0, 0), tableOf(3, 9, 0, 1, 4, 0, 0), tableOf(4, 9, 0, 1, 1, 0, 1)}, Next: 5},
		// Entries to where there is no sector.
		{Devices: one, Tables: []api.Table{tableOf(2, 64, 0, 64, 1, 0, 64)}, Next: 3}, {Devices: one, Tables: []api.Table{tableOf(2, 1, 0, 1, 3, 1, 0), tableOf(3, 1)}, Next: 4},
		// Jobs: at the begin, at the last sector, with entries that end at At.
		{Devices: two, Job: jobOf(40, 3, 0), Next: 41}, {Devices: two, Job: jobOf(40, 3, 2), Next: 41}, {Devices: two, Job: jobOf(1, 2, 1, 0, 1, 40, 63, 1), Next: 41},
		{Devices: two, Job: jobOf(40, 3, 2, 0, 2, 1, 0, 0), Next: 41}, {Devices: two, Job: jobOf(40, 3, 2, 0, 1, 1, 5, 0, 1, 1, 1, 0, 0), Next: 41},
		// A table that leads to the device that is emptied.
		{Devices: two, Tables: []api.Table{tableOf(7, 9, 0, 2, 40, 0, 0)}, Job: jobOf(40, 3, 2), Next: 41},
	} {
		if e := chain.Check(p); e != api.OK {
			t.Errorf("%d: %v", i, e)
		}
		if !mayBe(p) {
			t.Errorf("%d: the tests' own words refuse it", i)
		}
	}
}

// P9.1: Old, Now and Way of the sample's places: through none of its tables, one, several, the job's.
func TestPlaces(t *testing.T) {
	p := sample()
	for _, c := range []struct {
		what      string
		q, old, x api.Ptr
		way       []int
	}{
		{"there", at(2, 0), at(2, 0), at(2, 0), nil},
		{"free", at(2, 5), at(2, 5), at(2, 5), nil},
		{"Size - 1", at(2, 9), at(2, 9), at(2, 9), nil},
		{"above the job's device", at(9, 11), at(9, 11), at(9, 11), nil},
		{"below the job's At", at(3, 0), at(3, 0), at(9, 0), []int{3}},
		{"right below the job's At", at(3, 4), at(3, 4), at(2, 4), []int{3}},
		{"the job's At", at(3, 5), at(3, 5), at(3, 5), nil},
		{"above the job's At", at(3, 7), at(3, 7), at(3, 7), nil},
		{"one table", at(8, 5), at(2, 9), at(2, 9), []int{8}},
		{"one table, all stale", at(8, 16), at(2, 1), at(2, 1), []int{8}},
		{"one table, to the job's device, at At", at(5, 2), at(3, 5), at(3, 5), []int{5}},
		{"one table, and the job's", at(1, 3), at(3, 1), at(9, 1), []int{1, 3}},
		{"two tables", at(8, 10), at(9, 11), at(9, 11), []int{8, 5}},
		{"two tables, and the job's", at(8, 2), at(3, 4), at(2, 4), []int{8, 5, 3}},
		{"three tables", at(1, 1), at(3, 5), at(3, 5), []int{1, 8, 5}},
		{"three tables, and the job's", at(1, 0), at(3, 4), at(2, 4), []int{1, 8, 5, 3}},
	} {
		holds(t, c.what, p, op{"old", ptrs(c.q.Dev, c.q.At)}, answer{q: c.old})
		holds(t, c.what, p, op{"now", ptrs(c.q.Dev, c.q.At)}, answer{q: c.x})
		holds(t, c.what, p, op{"way", ptrs(c.q.Dev, c.q.At)}, answer{w: c.way})
	}
}

// P9.1: ErrNone of Old, and so of Now and Way.
func TestNone(t *testing.T) {
	for what, l := range map[string][]api.Ptr{
		"never was":             ptrs(4, 0, 10, 0, 40, 0, 41, 0, 0, 0, -1, 0, math.MinInt, 0, math.MaxInt, 0, 1<<32+2, 0),
		"no such sector":        ptrs(2, 10, 2, 11, 2, 63, 2, 64, 2, -1, 3, 8, 9, 12, 2, math.MinInt, 2, math.MaxInt, 2, 1<<32+1, 3, -1, 3, math.MinInt),
		"in no entry":           ptrs(1, 2, 1, 5, 5, 4, 5, 5, 8, 0, 8, 1, 8, 6, 8, 19),
		"none of the table":     ptrs(1, 6, 1, -1, 5, 9, 8, 20, 8, 64, 8, math.MinInt, 8, math.MaxInt, 8, 1<<32+2),
		"none of the table met": ptrs(8, 12),
		"none at the end":       ptrs(5, 8, 8, 11),
	} {
		for _, q := range l {
			for _, kind := range []string{"old", "now", "way", "lose"} {
				holds(t, what, sample(), op{kind, ptrs(q.Dev, q.At)}, answer{e: api.ErrNone})
			}
		}
	}
	// In no entry of a table on the way.
	p := sample()
	p.Tables[0].List[0].To = 5
	holds(t, "on the way", p, op{"old", ptrs(1, 0)}, answer{q: at(2, 9)})
	for _, kind := range []string{"old", "now", "way", "lose"} {
		holds(t, "on the way", p, op{kind, ptrs(1, 1)}, answer{e: api.ErrNone})
	}
	// The same numbers are no sectors of a pool without tables.
	for _, q := range ptrs(2, 0, 3, 0, 5, 0, 0, 0, 1, 4, 1, -1, 4, 5) {
		for _, kind := range []string{"old", "now", "way", "lose"} {
			holds(t, "plain", plain(), op{kind, ptrs(q.Dev, q.At)}, answer{e: api.ErrNone})
		}
	}
}

// P9.1: ErrNone by the job's table, which Old does not go by.
func TestNoneOfJob(t *testing.T) {
	p := sample()
	p.Job.Table.List[1].To = 9
	for _, c := range []struct {
		what   string
		q, old api.Ptr
	}{
		{"in no entry", at(3, 2), at(3, 2)},
		{"in no entry, by a table", at(1, 4), at(3, 2)},
		{"none at the end", at(3, 4), at(3, 4)},
		{"none at the end, by tables", at(1, 0), at(3, 4)},
	} {
		holds(t, c.what, p, op{"old", ptrs(c.q.Dev, c.q.At)}, answer{q: c.old})
		for _, kind := range []string{"now", "way", "lose"} {
			holds(t, c.what, p, op{kind, ptrs(c.q.Dev, c.q.At)}, answer{e: api.ErrNone})
		}
	}
	holds(t, "the last sector there is", p, op{"now", ptrs(3, 3)}, answer{q: at(2, 9)})
	// A job that has done nothing yet leaves all as it is.
	p.Job = jobOf(3, 8, 0)
	for n := range 8 {
		holds(t, "at the begin", p, op{"now", ptrs(3, n)}, answer{q: at(3, n)})
		holds(t, "at the begin", p, op{"way", ptrs(3, n)}, answer{})
	}
}

// P9.1: as many tables as may be, one behind the other, and a job's behind them.
func TestLongWay(t *testing.T) {
	p := api.Pool{Devices: []api.Device{diskOf(1, ".."), diskOf(2, "...")}, Tables: row(3, api.MaxTables, 2), Job: jobOf(2, 3, 2, 1, 1, 1, 0, 0), Next: 15}
	devs := []int{3, 4, 5, 6, 7, 8, 9, 10, 11, 12, 13, 14, 2}
	for i := range api.MaxTables {
		q := ptrs(3+i, 1)
		holds(t, "old", p, op{"old", q}, answer{q: at(2, 1)})
		holds(t, "now", p, op{"now", q}, answer{q: at(1, 0)})
		holds(t, "way", p, op{"way", q}, answer{w: devs[i:]})
	}
	want := twin(p)
	for i := range want.Tables {
		want.Tables[i].List[0].Stale = 1
	}
	want.Job.Table.List[0].Stale, want.Devices[0] = 1, diskOf(1, "l.")
	holds(t, "lose", p, op{"lose", ptrs(3, 1)}, answer{p: want})
}

// behind is a pool whose devices are such, with one more stale sector in each of some entries: a table's place among the tables (behind them: the job's), the entry's in it.
func behind(p api.Pool, disks []string, stale ...[2]int) api.Pool {
	p = twin(p)
	for i, l := range disks {
		p.Devices[i] = diskOf(p.Devices[i].ID, l)
	}
	for _, x := range stale {
		l := p.Job.Table.List
		if x[0] < len(p.Tables) {
			l = p.Tables[x[0]].List
		}
		l[x[1]].Stale++
	}
	return p
}

// P9.2: Lose of no place, of one, of several: by no table, by one, by several, by the job's.
func TestLose(t *testing.T) {
	for _, c := range []struct {
		what  string
		q     []api.Ptr
		disks []string
		stale [][2]int
	}{
		{"no place", nil, nil, nil},
		{"no table", ptrs(2, 0), []string{"l....ffl.."}, nil},
		{"above the job's At", ptrs(3, 7), []string{".....ffl..", ".l...lfl"}, nil},
		{"one table", ptrs(8, 5), []string{".....ffl.l"}, [][2]int{{2, 1}}},
		{"the job's", ptrs(3, 4), []string{"....lffl.."}, [][2]int{{3, 1}}},
		{"one table, and the job's", ptrs(1, 3), []string{".....ffl..", ".l...lf.", ".l.........f"}, [][2]int{{0, 1}, {3, 0}}},
		{"three tables, and the job's", ptrs(1, 0), []string{"....lffl.."}, [][2]int{{0, 0}, {2, 0}, {1, 0}, {3, 1}}},
		{"several", ptrs(3, 0, 2, 0, 8, 5, 1, 3), []string{"l....ffl.l", ".l...lf.", "ll.........f"}, [][2]int{{3, 0}, {2, 1}, {0, 1}, {3, 0}}},
		{"several, by the same tables", ptrs(8, 2, 5, 0), []string{"...llffl.."}, [][2]int{{2, 0}, {1, 0}, {3, 1}, {1, 0}, {3, 1}}},
	} {
		holds(t, c.what, sample(), op{"lose", c.q}, answer{p: behind(sample(), c.disks, c.stale...)})
	}
	holds(t, "plain", plain(), op{"lose", ptrs(4, 0, 1, 3, 4, 3)}, answer{p: behind(plain(), []string{"..fl", "l..ll"})})
	holds(t, "plain", plain(), op{"lose", nil}, answer{p: plain()})
	// An entry's last sector that is not stale yet may be any of its own.
	p := sample()
	p.Tables[2].List[3].Stale = 1
	for n := 15; n < 17; n++ {
		want := behind(p, []string{"l....ffl.."}, [2]int{2, 3})
		if n == 16 {
			want.Devices[0] = diskOf(2, ".l...ffl..")
		}
		holds(t, "the last one", p, op{"lose", ptrs(8, n)}, answer{p: want})
	}
}

// P9.2: what is lost on the job's device is stale in its table alone; the device that it was on stays as it is.
func TestLoseJob(t *testing.T) {
	p := api.Pool{Devices: []api.Device{diskOf(1, "...."), diskOf(2, "...")}, Job: jobOf(2, 3, 2, 0, 2, 1, 1, 0), Next: 3}
	holds(t, "one", p, op{"lose", ptrs(2, 1)}, answer{p: behind(p, []string{"..l."}, [2]int{0, 0})})
	holds(t, "both", p, op{"lose", ptrs(2, 1, 2, 0)}, answer{p: behind(p, []string{".ll."}, [2]int{0, 0}, [2]int{0, 0})})
	holds(t, "beside", p, op{"lose", ptrs(1, 0, 2, 2)}, answer{p: behind(p, []string{"l...", "..l"})})
}

// P9.1, P9.2: whatever pool there is, and whatever is asked of it: what the document says.
func TestAll(t *testing.T) {
	d := dice(9)
	count := map[string]int{}
	long := 0
	for range 3000 {
		p := d.pool()
		if !mayBe(p) || chain.Check(p) != api.OK {
			t.Fatalf("a pool that is none: %v", p)
		}
		for range 8 {
			o := d.op(p)
			want := wanted(p, o)
			holds(t, "thrown", p, o, want)
			if t.Failed() {
				return
			}
			count[o.kind+" "+name(want.e)]++
			if len(want.w) > 3 {
				long++
			}
			if o.kind == "lose" && want.e == api.OK {
				p = want.p
			}
		}
	}
	for _, kind := range []string{"old OK", "old ErrNone", "now OK", "now ErrNone", "way OK", "way ErrNone", "lose OK", "lose ErrNone", "lose ErrState", "lose ErrThere"} {
		if count[kind] < 300 {
			t.Errorf("%s: only %d", kind, count[kind])
		}
	}
	if long < 150 {
		t.Errorf("long ways: only %d", long)
	}
}

func name(e api.Errno) string {
	return map[api.Errno]string{api.OK: "OK", api.ErrNone: "ErrNone", api.ErrState: "ErrState", api.ErrThere: "ErrThere"}[e]
}

// P9.1: pools of which one thing was made another: those that may be, and those that may not.
func TestCheckAll(t *testing.T) {
	d := dice(91)
	good, bad := 0, 0
	for range 20000 {
		p := d.turned(d.pool())
		want := answer{e: api.ErrForm}
		if mayBe(p) {
			want.e = api.OK
			good++
		} else {
			bad++
		}
		holds(t, "turned", p, op{kind: "check"}, want)
		if t.Failed() {
			return
		}
	}
	if good < 3000 || bad < 3000 {
		t.Errorf("%d, %d", good, bad)
	}
}

// P9.3: Now tells no sector of a device that is gone, whatever place is asked for; what it tells has no way on.
func TestNowIsThere(t *testing.T) {
	d := dice(93)
	for range 300 {
		p := d.pool()
		size := map[int]int{}
		for _, x := range p.Devices {
			size[x.ID] = x.Size
		}
		found := 0
		for dev := range api.MaxIDs + 2 {
			for n := range 15 {
				x, e := chain.Now(p, at(dev, n-1))
				if e != api.OK {
					continue
				}
				found++
				if x.At < 0 || x.At >= size[x.Dev] {
					t.Fatalf("%v: %v: %v", p, at(dev, n-1), x)
				}
			}
		}
		if found == 0 && p.Job.Dev == 0 {
			t.Fatalf("%v: nothing found", p)
		}
	}
}

// P9.2, P9.3: what was lost is late, and may be; of a place lost once nothing can be lost any more.
func TestLostIsLate(t *testing.T) {
	d := dice(92)
	lost := 0
	for range 3000 {
		p := d.pool()
		q := d.place(p)
		x, e := chain.Lose(p, q)
		if e != api.OK {
			continue
		}
		lost++
		if chain.Check(x) != api.OK {
			t.Fatalf("%v: %v: may not be", p, q)
		}
		to, _ := chain.Now(p, q)
		for _, dev := range x.Devices {
			if dev.ID == to.Dev && lettersOf(dev)[to.At] != 'l' {
				t.Fatalf("%v: %v: %v is not late", p, q, to)
			}
		}
		if again, e := chain.Now(x, q); again != to || e != api.OK {
			t.Fatalf("%v: %v: not where it was", p, q)
		}
		if _, e := chain.Lose(x, q); e != api.ErrThere && e != api.ErrState {
			t.Fatalf("%v: %v: twice: %v", p, q, e)
		}
	}
	if lost < 500 {
		t.Errorf("only %d", lost)
	}
}
