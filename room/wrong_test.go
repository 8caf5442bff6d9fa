package room_test

import (
	"math"
	"testing"

	"hermitage/api"
)

// wrong is segments that may not be, of any device.
func wrong() [][]api.Seg {
	return [][]api.Seg{
		{{}}, {{At: 1}}, {{At: 1, Len: -1}}, {{At: -1, Len: 1}}, {{At: -1, Len: 2}}, {{At: 0, Len: 1}, {At: 1, Len: 1}}, {{At: 0, Len: 2}, {At: 1, Len: 2}}, {{At: 0, Len: 1}, {At: 0, Len: 1}},
		{{At: 3, Len: 1}, {At: 0, Len: 1}}, {{At: 0, Len: 1}, {At: 2}}, {{At: math.MaxInt, Len: 1}}, {{At: 1, Len: math.MaxInt}}, {{At: math.MaxInt, Len: math.MaxInt}}, {{At: math.MinInt, Len: math.MaxInt}}, {{At: 0, Len: 65}}, {{At: 64, Len: 1}},
	}
}

// form is devices that may not be.
type form struct {
	what string
	l    []api.Device
}

// forms are each wrong in one thing, wherever among the devices it stands.
func forms() (all []form) {
	set := func(what string, turn func(d *api.Device)) {
		for i := range sample() {
			l := sample()
			turn(&l[i])
			all = append(all, form{what, l})
		}
		alone := drawn(diskOf(7, "f.l.f"))
		turn(&alone[0])
		all = append(all, form{what + ", alone", alone})
	}
	set("no device at all", func(d *api.Device) { *d = api.Device{} })
	for _, id := range []int{0, -1, api.MaxIDs + 1, math.MinInt, math.MaxInt, 1<<32 + 7} {
		set("ID", func(d *api.Device) { d.ID = id })
	}
	for _, n := range []int{0, -1, api.MaxSize + 1, math.MinInt, math.MaxInt, 1<<32 + 8} {
		set("Size", func(d *api.Device) { d.Size = n })
	}
	for _, l := range wrong() {
		set("Free", func(d *api.Device) { d.Free, d.Late = l, nil })
		set("Late", func(d *api.Device) { d.Free, d.Late = nil, l })
	}
	set("Free ends above Size", func(d *api.Device) { d.Free, d.Late = []api.Seg{{At: d.Size - 1, Len: 2}}, nil })
	set("Free is above Size", func(d *api.Device) { d.Free, d.Late = []api.Seg{{At: 0, Len: 1}, {At: d.Size, Len: 1}}, nil })
	set("Late ends above Size", func(d *api.Device) { d.Free, d.Late = nil, []api.Seg{{At: 0, Len: d.Size + 1}} })
	set("Late is above Size", func(d *api.Device) { d.Free, d.Late = nil, []api.Seg{{At: d.Size, Len: 1}} })
	for n := range 3 {
		set("free and late", func(d *api.Device) { d.Free, d.Late = []api.Seg{{At: 0, Len: 3}}, []api.Seg{{At: n, Len: 1}} })
		set("late and free", func(d *api.Device) { d.Free, d.Late = []api.Seg{{At: n, Len: 1}}, []api.Seg{{At: 0, Len: 3}} })
	}
	set("all of it free and late", func(d *api.Device) {
		d.Free, d.Late = []api.Seg{{At: 0, Len: d.Size}}, []api.Seg{{At: 0, Len: d.Size}}
	})
	return append(all, rows()...)
}

// rows are devices of which each one may be.
func rows() (all []form) {
	a, b, c := diskOf(1, "f"), diskOf(2, "."), diskOf(3, "l")
	for _, l := range [][]disk{{a, a}, {b, a}, {c, b, a}, {a, c, b}, {b, a, c}, {a, c, c}, {a, b, b}} {
		all = append(all, form{"IDs", drawn(l...)})
	}
	var many []disk
	for id := range api.MaxIDs {
		many = append(many, diskOf(id+1, "f"))
	}
	all = append(all, form{"all IDs there are", drawn(many...)})
	return append(all, form{"one device too many", drawn(many[:api.MaxDevices+1]...)}, form{"one device too many", drawn(many[api.MaxIDs-api.MaxDevices-1:]...)})
}

// P7.1, P7.2: ErrForm of devices that may not be, ahead of all, and nothing beside it.
func TestForms(t *testing.T) {
	for _, f := range forms() {
		if _, mayBe := disks(f.l); mayBe {
			t.Fatalf("%s: may be: %v", f.what, f.l)
		}
		for _, kind := range kinds() {
			for _, id := range []int{0, 1, 2, 7, 77, math.MinInt} {
				for _, n := range []int{0, 1, -1, 385} {
					holds(t, f.what, f.l, op{kind: kind, id: id, n: n, p: ptrs(id, n)[:min(1, n*n)]}, answer{e: api.ErrForm})
				}
			}
		}
	}
}

// P7.2: ErrForm of a number to take that may not be, ahead of ErrFull.
func TestTakeNumber(t *testing.T) {
	for _, n := range []int{-1, api.MaxDevices*api.MaxSize + 1, math.MinInt, math.MaxInt, 1 << 32, -1 << 32} {
		for _, l := range [][]api.Device{nil, sample()} {
			for _, id := range []int{0, 2, 77} {
				holds(t, "number", l, op{kind: "take", n: n, id: id}, answer{e: api.ErrForm})
			}
		}
	}
}

// P7.1: ErrNone of Used, of each ID that no device has.
func TestUsedNone(t *testing.T) {
	for _, id := range []int{0, 1, 4, 8, 10, 39, 41, -2, math.MinInt, math.MaxInt, 1<<32 + 2} {
		holds(t, "the sample", sample(), op{kind: "used", id: id}, answer{e: api.ErrNone})
		holds(t, "no devices", nil, op{kind: "used", id: id}, answer{e: api.ErrNone})
	}
}

// P7.2: errors of Give, one by one, in order: the first place that errs tells, and nothing beside it.
func TestGiveErrors(t *testing.T) {
	for i, c := range []struct {
		p []api.Ptr
		e api.Errno
	}{
		{ptrs(1, 0), api.ErrNone}, {ptrs(0, 0), api.ErrNone}, {ptrs(41, 0), api.ErrNone}, {ptrs(-2, 2), api.ErrNone}, {ptrs(math.MinInt, 0), api.ErrNone}, {ptrs(1<<32+2, 2), api.ErrNone},
		// No device, whatever the sector.
		{ptrs(1, -1), api.ErrNone}, {ptrs(1, 99), api.ErrNone},
		{ptrs(2, 8), api.ErrForm}, {ptrs(2, -1), api.ErrForm}, {ptrs(9, 4), api.ErrForm}, {ptrs(40, 3), api.ErrForm}, {ptrs(2, math.MinInt), api.ErrForm}, {ptrs(2, math.MaxInt), api.ErrForm}, {ptrs(2, 1<<32+2), api.ErrForm},
		{ptrs(2, 0), api.ErrThere}, {ptrs(2, 1), api.ErrThere}, {ptrs(2, 5), api.ErrThere}, {ptrs(2, 3), api.ErrThere}, {ptrs(3, 0), api.ErrThere}, {ptrs(9, 3), api.ErrThere},
		// One place twice: it is late by then.
		{ptrs(2, 2, 2, 2), api.ErrThere}, {ptrs(40, 1, 2, 2, 40, 1), api.ErrThere},
		// In order.
		{ptrs(2, 2, 1, 0, 2, 8, 2, 0), api.ErrNone}, {ptrs(2, 2, 2, 8, 1, 0, 2, 0), api.ErrForm}, {ptrs(2, 2, 2, 0, 1, 0, 2, 8), api.ErrThere}, {ptrs(2, 2, 2, 2, 1, 0), api.ErrThere}, {ptrs(2, 2, 40, 0, 40, 1, 40, 2, 40, 3), api.ErrForm},
	} {
		l := sample()
		if a := do(l, op{kind: "give", p: c.p}); a.told() != (answer{e: c.e}).told() {
			t.Errorf("%d: %s", i, a.told())
		}
		if (answer{l: l}).told() != (answer{l: sample()}).told() {
			t.Fatalf("%d: changed: %v", i, l)
		}
	}
	holds(t, "no devices", nil, op{kind: "give", p: ptrs(1, 0)}, answer{e: api.ErrNone})
}

// R1: a great many places end, too.
func TestGiveMany(t *testing.T) {
	p := make([]api.Ptr, 1<<20)
	for i := range p {
		p[i] = api.Ptr{Dev: 40, At: i % 3}
	}
	holds(t, "many", sample(), op{kind: "give", p: p}, answer{e: api.ErrThere})
}
