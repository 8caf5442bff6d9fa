package reach

import (
	"slices"

	"hermitage/api"
)

// blocks is each file's Blocks as they stand: to be read only.
func blocks(l ...api.Vol) [][]int {
	var all [][]int
	for _, v := range l {
		for _, f := range v.Files {
			all = append(all, f.Blocks)
		}
	}
	return all
}

func without(l []api.Vol, id int) []api.Vol {
	return slices.DeleteFunc(slices.Clone(l), func(v api.Vol) bool { return v.ID == id })
}

// set is numbers, rising, each once.
type set []int

func setOf(l ...[]int) set {
	s := slices.Concat(l...)
	slices.Sort(s)
	return slices.Compact(s)
}

func (s set) at(n int) (int, bool) {
	return slices.BinarySearch(s, n)
}

// tally is a set, and how many times each of its numbers was met.
// Lists are met as they come, in any order: they may be long, and need no copy for it.
type tally struct {
	set
	times []int
}

// tallyOf is of all numbers of the lists: none was met yet.
func tallyOf(l ...[]int) tally {
	s := setOf(l...)
	return tally{set: s, times: make([]int, len(s))}
}

func (t tally) meet(l ...[]int) {
	for _, m := range l {
		for _, n := range m {
			if i, is := t.at(n); is {
				t.times[i]++
			}
		}
	}
}

func (t tally) unmet() []int {
	var l []int
	for i, n := range t.set {
		if t.times[i] == 0 {
			l = append(l, n)
		}
	}
	return l
}
