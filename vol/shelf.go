package vol

import (
	"slices"

	"hermitage/api"
	"hermitage/tree"
)

// volume is one of a row, where it stands there: what is done to it is done to the row.
type volume struct {
	*api.Vol
}

// copies is volumes that have no memory in common with these, nor with one another.
func copies(l ...api.Vol) row {
	r := slices.Clone(l)
	for i := range r {
		r[i].Files = filesOf(r[i])
	}
	return r
}

func filesOf(v api.Vol) []api.File {
	l := slices.Clone(v.Files)
	for i, f := range l {
		l[i].Blocks = slices.Clone(f.Blocks)
		l[i].List = slices.Clone(f.List)
	}
	return l
}

// snapshot has no ID yet: that comes with its place in a row.
func (v volume) snapshot() api.Vol {
	return api.Vol{From: v.ID, Snap: true, Files: filesOf(*v.Vol), Next: v.Next}
}

// clone has no ID yet, either.
func (v volume) clone() api.Vol {
	return api.Vol{Files: filesOf(*v.Vol), Next: v.Next}
}

// take gives v the files of a snapshot. Next does not go back with them: no ID is to name a second file.
func (v volume) take(snap volume) {
	v.Files = filesOf(*snap.Vol)
	v.Next = max(v.Next, snap.Next)
}

// row is volumes by rising IDs.
type row []api.Vol

func (r row) find(id int) (volume, bool) {
	for i := range r {
		if r[i].ID == id {
			return volume{&r[i]}, true
		}
	}
	return volume{}, false
}

// snaps is the IDs of all snapshots of a volume.
func (r row) snaps(id int) []int {
	var l []int
	for _, v := range r {
		if v.Snap && v.From == id {
			l = append(l, v.ID)
		}
	}
	return l
}

// newer is the IDs of the snapshots that its volume had after this one.
func (r row) newer(snap volume) []int {
	return slices.DeleteFunc(r.snaps(snap.From), func(id int) bool { return id <= snap.ID })
}

func (r row) without(ids ...int) row {
	return slices.DeleteFunc(r, func(v api.Vol) bool { return slices.Contains(ids, v.ID) })
}

// rooted tells whether v, if it is a snapshot, is one of a volume that is there.
func (r row) rooted(v api.Vol) bool {
	if !v.Snap {
		return true
	}
	from, is := r.find(v.From)
	return is && !from.Snap
}

// shelf is a row, and the ID that the next volume on it gets.
type shelf struct {
	row
	next int
}

// open is a copy of the volumes, if they may be, and the one of them with that ID.
func open(l []api.Vol, next int, id int) (*shelf, volume, api.Errno) {
	if e := Check(l, next); e != api.OK {
		return nil, volume{}, e
	}
	s := &shelf{row: copies(l...), next: next}
	v, is := s.find(id)
	if !is {
		return nil, volume{}, api.ErrNone
	}
	return s, v, api.OK
}

// mayBe counts first: what is longer is not gone through.
func (s *shelf) mayBe() bool {
	if len(s.row) > api.MaxVols || s.next < 1 || s.next > api.MaxNum {
		return false
	}
	last := 0
	for _, v := range s.row {
		if v.ID <= last || v.ID >= s.next || tree.Check(v) != api.OK || !s.rooted(v) {
			return false
		}
		last = v.ID
	}
	return true
}

func (s *shelf) isFull() bool {
	return len(s.row) >= api.MaxVols || s.next >= api.MaxNum
}

// add gives v its ID. What was found on the shelf ahead may not stand there any more: a longer row lies elsewhere.
func (s *shelf) add(v api.Vol) {
	v.ID = s.next
	s.row = append(s.row, v)
	s.next++
}
