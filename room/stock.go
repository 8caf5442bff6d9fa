package room

import (
	"slices"

	"hermitage/api"
	"hermitage/seg"
)

// device is one of a list, where it stands there: what is done to it is done to the list.
type device struct {
	*api.Device
}

// mayBe leaves most of it to package seg: Not refuses segments that may not be, and those that end above Size.
func (d device) mayBe() bool {
	if d.ID < 1 || d.ID > api.MaxIDs || d.Size < 1 || d.Size > api.MaxSize {
		return false
	}
	for _, l := range [][]api.Seg{d.Free, d.Late} {
		if _, e := seg.Not(l, d.Size); e != api.OK {
			return false
		}
	}
	common, _ := seg.Both(d.Free, d.Late)
	return len(common) == 0
}

func (d device) free() int {
	n, _ := seg.Count(d.Free)
	return n
}

func (d device) used() int {
	late, _ := seg.Count(d.Late)
	return d.Size - d.free() - late
}

// least is the least free sector, of a device that has one.
func (d device) least() sector {
	return sector{device: d, at: d.Free[0].At}
}

func (d device) commit() {
	d.Free, _ = seg.Join(d.Free, d.Late)
	d.Late = nil
}

// sector is one of a device.
type sector struct {
	device
	at int
}

func (s sector) isThere() bool {
	return s.at >= 0 && s.at < s.Size
}

func (s sector) isUsed() bool {
	free, _ := seg.Has(s.Free, s.at)
	late, _ := seg.Has(s.Late, s.at)
	return !free && !late
}

func (s sector) alone() []api.Seg {
	return []api.Seg{{At: s.at, Len: 1}}
}

func (s sector) take() {
	s.Free, _ = seg.Less(s.Free, s.alone())
}

func (s sector) give() {
	s.Late, _ = seg.Join(s.Late, s.alone())
}

func (s sector) ptr() api.Ptr {
	return api.Ptr{Dev: s.ID, At: s.at}
}

// group is devices by rising IDs, each where it stands.
type group []device

func groupOf(l []api.Device) group {
	var g group
	for i := range l {
		g = append(g, device{&l[i]})
	}
	return g
}

func (g group) mayBe() bool {
	last := 0
	for _, d := range g {
		if d.ID <= last || !d.mayBe() {
			return false
		}
		last = d.ID
	}
	return true
}

func (g group) besides(not int) group {
	return slices.DeleteFunc(slices.Clone(g), func(d device) bool { return d.ID == not })
}

func (g group) free() int {
	n := 0
	for _, d := range g {
		n += d.free()
	}
	return n
}

// emptiest is the device with the most free sectors, of as many the first one: its ID is the least.
func (g group) emptiest() device {
	return slices.MaxFunc(g, func(a, b device) int { return a.free() - b.free() })
}

func (g group) find(id int) (device, bool) {
	for _, d := range g {
		if d.ID == id {
			return d, true
		}
	}
	return device{}, false
}

// usedAt is the sector at that place, if it is one that is neither free nor late.
func (g group) usedAt(p api.Ptr) (sector, api.Errno) {
	d, is := g.find(p.Dev)
	if !is {
		return sector{}, api.ErrNone
	}
	s := sector{device: d, at: p.At}
	if !s.isThere() {
		return sector{}, api.ErrForm
	}
	if !s.isUsed() {
		return sector{}, api.ErrThere
	}
	return s, api.OK
}

func (g group) commit() {
	for _, d := range g {
		d.commit()
	}
}

// stock is devices that a call may change and tell, and the group of them.
type stock struct {
	group
	list []api.Device
}

// open is a copy of the devices, if they may be.
func open(l []api.Device) (stock, api.Errno) {
	if e := Check(l); e != api.OK {
		return stock{}, e
	}
	list := slices.Clone(l)
	for i, d := range list {
		list[i].Free, list[i].Late = slices.Clone(d.Free), slices.Clone(d.Late)
	}
	return stock{group: groupOf(list), list: list}, api.OK
}
