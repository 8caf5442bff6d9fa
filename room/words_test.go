package room_test

import (
	"fmt"
	"slices"
	"testing"

	"hermitage/api"
	"hermitage/room"
)

// op is a call: its kind; of count and take not, of used the ID; of take how many; of give the places.
type op struct {
	kind string
	id   int
	n    int
	p    []api.Ptr
}

func kinds() []string {
	return []string{"check", "count", "used", "take", "give", "commit"}
}

// answer is all that a call tells.
type answer struct {
	n int
	p []api.Ptr
	l []api.Device
	e api.Errno
}

// told is all of it as a text; a nil list and an empty one are one.
func (a answer) told() string {
	return fmt.Sprint(a.e, " ", a.n, " ", a.p, " ", a.l)
}

// do lets the program do it.
func do(l []api.Device, o op) (a answer) {
	switch o.kind {
	case "check":
		a.e = room.Check(l)
	case "count":
		a.n, a.e = room.Count(l, o.id)
	case "used":
		a.n, a.e = room.Used(l, o.id)
	case "take":
		a.p, a.l, a.e = room.Take(l, o.n, o.id)
	case "give":
		a.l, a.e = room.Give(l, o.p...)
	case "commit":
		a.l, a.e = room.Commit(l)
	}
	return a
}

// holds asks for what one call is to tell.
func holds(t *testing.T, what string, l []api.Device, o op, want answer) {
	t.Helper()
	if a := do(l, o); a.told() != want.told() {
		t.Errorf("%s: %v of %v: %s: not %s", what, o, l, a.told(), want.told())
	}
}

// What a sector is.
const (
	used = iota
	free
	late
)

// disk is a device as the tests keep it: what each of its sectors is.
type disk struct {
	id int
	is []int
}

// paint makes sectors of segments what is asked for, if the segments are such as the document allows.
func (d disk) paint(l []api.Seg, what int) bool {
	for i, s := range l {
		if s.At < 0 || s.Len < 1 || s.At >= len(d.is) || s.Len > len(d.is) || s.At+s.Len > len(d.is) {
			return false
		}
		if i > 0 && s.At <= l[i-1].At+l[i-1].Len {
			return false
		}
		for n := range s.Len {
			if d.is[s.At+n] != used {
				return false
			}
			d.is[s.At+n] = what
		}
	}
	return true
}

func (d disk) count(what int) (n int) {
	for _, x := range d.is {
		if x == what {
			n++
		}
	}
	return n
}

func (d disk) segments(what int) (l []api.Seg) {
	for n, x := range d.is {
		if x != what {
			continue
		}
		if i := len(l) - 1; i >= 0 && l[i].At+l[i].Len == n {
			l[i].Len++
		} else {
			l = append(l, api.Seg{At: n, Len: 1})
		}
	}
	return l
}

func (d disk) device() api.Device {
	return api.Device{ID: d.id, Size: len(d.is), Free: d.segments(free), Late: d.segments(late)}
}

// diskOf is a device whose first sector is what the first letter says: f free, l late, else used.
func diskOf(id int, letters string) disk {
	d := disk{id: id}
	for _, c := range letters {
		d.is = append(d.is, map[rune]int{'f': free, 'l': late}[c])
	}
	return d
}

// drawn is devices, each as diskOf says.
func drawn(l ...disk) (all []api.Device) {
	for _, d := range l {
		all = append(all, d.device())
	}
	return all
}

// disks is what the document's words make of devices; false, if they may not be.
func disks(l []api.Device) (all []disk, mayBe bool) {
	for i, x := range l {
		if x.ID < 1 || x.ID > api.MaxIDs || x.Size < 1 || x.Size > api.MaxSize || i > 0 && x.ID <= l[i-1].ID {
			return nil, false
		}
		d := disk{id: x.ID, is: make([]int, x.Size)}
		if !d.paint(x.Free, free) || !d.paint(x.Late, late) {
			return nil, false
		}
		all = append(all, d)
	}
	return all, len(l) <= api.MaxDevices
}

// wanted is what the document asks for.
func wanted(l []api.Device, o op) answer {
	all, mayBe := disks(l)
	if !mayBe {
		return answer{e: api.ErrForm}
	}
	switch o.kind {
	case "count":
		return answer{n: freeOf(all, o.id)}
	case "used":
		for _, d := range all {
			if d.id == o.id {
				return answer{n: d.count(used)}
			}
		}
		return answer{e: api.ErrNone}
	case "take":
		return wantedTake(all, o.n, o.id)
	case "give":
		return wantedGive(all, o.p)
	case "commit":
		for _, d := range all {
			for n, x := range d.is {
				if x == late {
					d.is[n] = free
				}
			}
		}
		return answer{l: drawn(all...)}
	}
	return answer{}
}

func freeOf(all []disk, not int) (n int) {
	for _, d := range all {
		if d.id != not {
			n += d.count(free)
		}
	}
	return n
}

func wantedTake(all []disk, n int, not int) (a answer) {
	if n < 0 || n > api.MaxDevices*api.MaxSize {
		return answer{e: api.ErrForm}
	}
	if freeOf(all, not) < n {
		return answer{e: api.ErrFull}
	}
	for range n {
		most, of := 0, disk{}
		for _, d := range all {
			if many := d.count(free); d.id != not && many > most {
				most, of = many, d
			}
		}
		at := slices.Index(of.is, free)
		of.is[at] = used
		a.p = append(a.p, api.Ptr{Dev: of.id, At: at})
	}
	a.l = drawn(all...)
	return a
}

func wantedGive(all []disk, p []api.Ptr) answer {
	for _, q := range p {
		i := slices.IndexFunc(all, func(d disk) bool { return d.id == q.Dev })
		switch {
		case i < 0:
			return answer{e: api.ErrNone}
		case q.At < 0 || q.At >= len(all[i].is):
			return answer{e: api.ErrForm}
		case all[i].is[q.At] != used:
			return answer{e: api.ErrThere}
		}
		all[i].is[q.At] = late
	}
	return answer{l: drawn(all...)}
}

// sample is devices with sectors of each kind.
func sample() []api.Device {
	return drawn(diskOf(2, "ff.l.f.."), diskOf(3, "llfff.ff"), diskOf(9, "ffff"), diskOf(40, "..."))
}

// twins is a copy of all of it.
func twins(l []api.Device) []api.Device {
	l = slices.Clone(l)
	for i, d := range l {
		l[i].Free, l[i].Late = slices.Clone(d.Free), slices.Clone(d.Late)
	}
	return l
}

// dice throws numbers that are always the same.
type dice uint64

func (d *dice) below(n int) int {
	*d = *d*6364136223846793005 + 1442695040888963407
	return int(*d >> 33 % dice(n))
}

func pick[T any](d *dice, l ...T) T {
	return l[d.below(len(l))]
}

// devices are some that may be: small ones and great ones, emptier and fuller ones.
func (d *dice) devices() (all []disk) {
	for id := range api.MaxIDs {
		if d.below(api.MaxIDs) < 4 && len(all) < api.MaxDevices {
			x := disk{id: id + 1, is: make([]int, pick(d, 1, 2, 5, 8, 8, 13, api.MaxSize))}
			many := pick(d, 1, 2, 3, 6)
			for n := range x.is {
				x.is[n] = pick(d, used, free, late)
				if d.below(many) == 0 {
					x.is[n] = free
				}
			}
			all = append(all, x)
		}
	}
	return all
}
