package seg

import "hermitage/api"

// run is a segment that can be asked about itself.
type run struct {
	api.Seg
}

// mayBe holds Len against what is left behind At: the sum of any two numbers might wrap round.
func (r run) mayBe() bool {
	return r.At >= 0 && r.At < api.MaxSize && r.Len >= 1 && r.Len <= api.MaxSize-r.At
}

func (r run) end() int {
	return r.At + r.Len
}

func (r run) has(n int) bool {
	return r.At <= n && n < r.end()
}

// endOf is where segments that may be end: 0 without any.
func endOf(l []api.Seg) int {
	if len(l) == 0 {
		return 0
	}
	return run{l[len(l)-1]}.end()
}

// set is sectors of a device, one by one: so lists of any length cost no more than a look at each segment.
type set struct {
	in [api.MaxSize]bool
}

func (s *set) add(r run) {
	for n := r.At; n < r.end(); n++ {
		s.in[n] = true
	}
}

func (s *set) has(n int) bool {
	return s.in[n]
}

// gather is all sectors of all lists, or ErrForm, if one of them may not be.
func gather(lists ...[]api.Seg) (set, api.Errno) {
	var s set
	for _, l := range lists {
		if e := Check(l); e != api.OK {
			return set{}, e
		}
		for _, x := range l {
			s.add(run{x})
		}
	}
	return s, api.OK
}

func gatherTwo(l []api.Seg, m []api.Seg) (set, set, api.Errno) {
	a, e := gather(l)
	if e != api.OK {
		return set{}, set{}, e
	}
	b, e := gather(m)
	if e != api.OK {
		return set{}, set{}, e
	}
	return a, b, api.OK
}

// builder makes segments of rising sectors; the run in it is the one that still grows (Len 0: none yet).
type builder struct {
	run
	done []api.Seg
}

func (b *builder) add(n int) {
	if b.Len > 0 && n == b.end() {
		b.Len++
		return
	}
	b.finish()
	b.run = run{api.Seg{At: n, Len: 1}}
}

func (b *builder) finish() {
	if b.Len > 0 {
		b.done = append(b.done, b.Seg)
	}
	b.run = run{}
}

// pick is the segments of all sectors that are wanted.
func pick(wanted func(n int) bool) []api.Seg {
	var b builder
	for n := range api.MaxSize {
		if wanted(n) {
			b.add(n)
		}
	}
	b.finish()
	return b.done
}
