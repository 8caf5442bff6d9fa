package table_test

import (
	"math"
	"testing"

	"hermitage/api"
)

// form is a table that may not be.
type form struct {
	what string
	t    api.Table
}

// forms are each wrong in one thing, wherever among the entries it stands.
func forms() (all []form) {
	set := func(what string, turn func(x *api.Table)) {
		for _, x := range []api.Table{sample(), tableOf(7, 20)} {
			turn(&x)
			all = append(all, form{what, x})
		}
	}
	set("no table at all", func(x *api.Table) { *x = api.Table{} })
	for _, n := range []int{0, -1, api.MaxIDs + 1, math.MinInt, math.MaxInt, 1<<32 + 7} {
		set("Dev", func(x *api.Table) { x.Dev = n })
	}
	for _, n := range []int{0, -1, api.MaxSize + 1, math.MinInt, math.MaxInt, 1<<32 + 20} {
		set("Size", func(x *api.Table) { x.Size = n })
	}
	return append(append(all, wrongEntries()...), wrongRows()...)
}

// wrongEntries are tables of which one entry is wrong in one thing.
func wrongEntries() (all []form) {
	set := func(what string, turn func(x *api.Entry)) {
		for i := range sample().List {
			x := sample()
			turn(&x.List[i])
			all = append(all, form{what, x})
		}
		alone := tableOf(7, 20, 4, 3, 2, 10, 1)
		turn(&alone.List[0])
		all = append(all, form{what + ", alone", alone})
	}
	set("no entry at all", func(x *api.Entry) { *x = api.Entry{} })
	for _, n := range []int{-1, 20, 64, math.MinInt, math.MaxInt, math.MaxInt - 2, 1<<32 + 4, -1<<32 + 4} {
		set("From", func(x *api.Entry) { x.From = n })
	}
	for _, n := range []int{0, -1, 65, math.MinInt, math.MaxInt, 1<<32 + 1} {
		set("Len", func(x *api.Entry) { x.Len, x.Stale = n, 0 })
		set("Len, all stale", func(x *api.Entry) { x.Len, x.Stale = n, n })
	}
	for _, n := range []int{0, -1, 7, api.MaxIDs + 1, math.MinInt, math.MaxInt, 1<<32 + 1} {
		set("Dev", func(x *api.Entry) { x.Dev = n })
	}
	for _, n := range []int{-1, 64, math.MinInt, math.MaxInt, math.MaxInt - 2, 1<<32 + 1, -1<<32 + 1} {
		set("To", func(x *api.Entry) { x.To = n })
	}
	set("To and Len above MaxSize", func(x *api.Entry) { x.To = api.MaxSize + 1 - x.Len })
	for _, n := range []int{-1, math.MinInt, math.MaxInt, 1 << 32, -1 << 32} {
		set("Stale", func(x *api.Entry) { x.Stale = n })
	}
	set("Stale above Len", func(x *api.Entry) { x.Stale = x.Len + 1 })
	set("ends above Size", func(x *api.Entry) { x.Len, x.To, x.Stale = 21-x.From, 0, 0 })
	return all
}

// wrongRows are tables of which each entry alone may be.
func wrongRows() (all []form) {
	for what, l := range map[string][]int{
		"a common sector":          {1, 3, 2, 10, 0, 3, 2, 2, 13, 0},
		"one in the other":         {1, 9, 2, 10, 0, 3, 2, 2, 33, 0},
		"the same From":            {1, 1, 2, 10, 0, 1, 2, 2, 13, 0},
		"twice the same":           {1, 1, 2, 10, 0, 1, 1, 2, 10, 0},
		"falling":                  {3, 1, 2, 10, 0, 1, 1, 2, 13, 0},
		"falling, side by side":    {1, 1, 2, 10, 0, 0, 1, 2, 9, 0},
		"falling at the end":       {1, 1, 2, 10, 0, 9, 1, 2, 13, 0, 5, 1, 2, 20, 0},
		"a common one at the end":  {1, 1, 2, 10, 0, 5, 4, 2, 13, 0, 8, 1, 2, 20, 0},
		"common with one far back": {1, 9, 2, 10, 0, 12, 1, 2, 30, 0, 8, 1, 2, 40, 0},
		"the last above Size":      {1, 1, 2, 10, 0, 20, 1, 2, 13, 0},
		"the last ends above Size": {1, 1, 2, 10, 0, 19, 2, 2, 13, 0},
	} {
		all = append(all, form{what, tableOf(7, 20, l...)})
	}
	return all
}

// P8.1, P8.2: ErrForm of a table that may not be, ahead of all, and nothing beside it.
func TestForms(t *testing.T) {
	for _, f := range forms() {
		if _, mayBe := chartOf(f.t); mayBe {
			t.Fatalf("%s: may be: %v", f.what, f.t)
		}
		for _, kind := range kinds() {
			for _, n := range []int{0, 1, 3, 6, 8, 19, 20, -1, math.MaxInt} {
				for _, many := range []int{0, 20, -1, 65} {
					holds(t, f.what, f.t, op{kind: kind, n: n, many: many, p: api.Ptr{Dev: many}}, answer{e: api.ErrForm})
					holds(t, f.what, f.t, op{kind: kind, n: n, many: many, p: api.Ptr{Dev: 2, At: 3}}, answer{e: api.ErrForm})
				}
			}
		}
	}
}

// P8.1: ErrForm of how many, whatever the sector.
func TestRangeMany(t *testing.T) {
	for _, x := range []api.Table{sample(), tableOf(7, 20)} {
		for _, many := range []int{-1, api.MaxSize + 1, math.MinInt, math.MaxInt, 1<<32 + 3, -1<<32 + 3} {
			for _, n := range []int{0, 1, 7, 20, -1, math.MinInt, math.MaxInt} {
				holds(t, "many", x, op{kind: "range", n: n, many: many}, answer{e: api.ErrForm})
			}
		}
	}
}

// P8.2: ErrForm of Add: ahead of the end, at Size and behind it, to a place that may not be an entry's.
func TestAddForm(t *testing.T) {
	x := tableOf(9, 20, 0, 2, 1, 5, 1, 4, 3, 2, 20, 2)
	good := api.Ptr{Dev: 2, At: 23}
	for _, n := range []int{0, 1, 2, 3, 4, 6, 20, 21, 63, 64, -1, math.MinInt, math.MaxInt, 1<<32 + 7, -1<<32 + 7} {
		holds(t, "sector", x, op{kind: "add", n: n, p: good}, answer{e: api.ErrForm})
	}
	for _, n := range []int{-1, 20, 21, math.MinInt, math.MaxInt, 1 << 32} {
		holds(t, "no entries", tableOf(9, 20), op{kind: "add", n: n, p: good}, answer{e: api.ErrForm})
	}
	for _, p := range []api.Ptr{
		{}, {Dev: 0, At: 23}, {Dev: -2, At: 23}, {Dev: api.MaxIDs + 1, At: 23}, {Dev: math.MinInt, At: 23}, {Dev: math.MaxInt, At: 23}, {Dev: 1<<32 + 2, At: 23},
		{Dev: 9, At: 0}, {Dev: 9, At: 23}, {Dev: 2, At: -1}, {Dev: 2, At: api.MaxSize}, {Dev: 2, At: math.MinInt}, {Dev: 2, At: math.MaxInt}, {Dev: 2, At: 1<<32 + 23},
	} {
		for _, n := range []int{7, 8, 19, 20, -1} {
			holds(t, "place", x, op{kind: "add", n: n, p: p}, answer{e: api.ErrForm})
		}
		holds(t, "no entries", tableOf(9, 20), op{kind: "add", n: 0, p: p}, answer{e: api.ErrForm})
	}
	// Right behind where the last entry ends there is no place any more; nor a sector.
	full := tableOf(9, 20, 4, 3, 2, 61, 0)
	holds(t, "no place", full, op{kind: "add", n: 7, p: api.Ptr{Dev: 2, At: 64}}, answer{e: api.ErrForm})
	full = tableOf(9, 20, 4, 16, 2, 20, 0)
	for _, n := range []int{19, 20, 21} {
		holds(t, "no sector", full, op{kind: "add", n: n, p: api.Ptr{Dev: 2, At: 36}}, answer{e: api.ErrForm})
	}
}

// R1: a list of any length ends, too.
func TestLongList(t *testing.T) {
	x := tableOf(7, api.MaxSize)
	x.List = make([]api.Entry, 1<<20)
	for i := range x.List {
		x.List[i] = api.Entry{From: i, Len: 1, Dev: 1}
	}
	for _, kind := range kinds() {
		holds(t, "long", api.Table{Dev: x.Dev, Size: x.Size, List: x.List}, op{kind: kind, n: 1, p: api.Ptr{Dev: 1}}, answer{e: api.ErrForm})
	}
}
