// Package seg: sectors in a row: see ../../shared/doc/01-seg.md.
package seg

import "hermitage/api"

// Check tells ErrForm, unless l are segments that may be.
func Check(l []api.Seg) api.Errno {
	least := 0
	for _, s := range l {
		r := run{s}
		if !r.mayBe() || r.At < least {
			return api.ErrForm
		}
		// One sector more: segments that touch should have been one.
		least = r.end() + 1
	}
	return api.OK
}

// Count tells how many sectors l has.
func Count(l []api.Seg) (int, api.Errno) {
	if e := Check(l); e != api.OK {
		return 0, e
	}
	n := 0
	for _, s := range l {
		n += s.Len
	}
	return n, api.OK
}

// Has tells whether sector n is in l.
func Has(l []api.Seg, n int) (bool, api.Errno) {
	if e := Check(l); e != api.OK {
		return false, e
	}
	for _, s := range l {
		if (run{s}).has(n) {
			return true, api.OK
		}
	}
	return false, api.OK
}

// Join tells the sectors that are in at least one of the lists.
func Join(l ...[]api.Seg) ([]api.Seg, api.Errno) {
	all, e := gather(l...)
	if e != api.OK {
		return nil, e
	}
	return pick(all.has), api.OK
}

// Less tells the sectors of l that are not in m.
func Less(l []api.Seg, m []api.Seg) ([]api.Seg, api.Errno) {
	a, b, e := gatherTwo(l, m)
	if e != api.OK {
		return nil, e
	}
	return pick(func(n int) bool { return a.has(n) && !b.has(n) }), api.OK
}

// Both tells the sectors that are in l and in m.
func Both(l []api.Seg, m []api.Seg) ([]api.Seg, api.Errno) {
	a, b, e := gatherTwo(l, m)
	if e != api.OK {
		return nil, e
	}
	return pick(func(n int) bool { return a.has(n) && b.has(n) }), api.OK
}

// Not tells the sectors below n that are not in l.
func Not(l []api.Seg, n int) ([]api.Seg, api.Errno) {
	a, e := gather(l)
	if e != api.OK {
		return nil, e
	}
	if n < 0 || n > api.MaxSize || endOf(l) > n {
		return nil, api.ErrForm
	}
	return pick(func(k int) bool { return k < n && !a.has(k) }), api.OK
}

// Of tells the segments of just these sectors, in whatever order and however often each is named.
func Of(l ...int) ([]api.Seg, api.Errno) {
	var s set
	for _, n := range l {
		r := run{api.Seg{At: n, Len: 1}}
		if !r.mayBe() {
			return nil, api.ErrForm
		}
		s.add(r)
	}
	return pick(s.has), api.OK
}

// List tells all sectors of l, rising.
func List(l []api.Seg) ([]int, api.Errno) {
	if e := Check(l); e != api.OK {
		return nil, e
	}
	var all []int
	for _, s := range l {
		r := run{s}
		for n := r.At; n < r.end(); n++ {
			all = append(all, n)
		}
	}
	return all, api.OK
}
