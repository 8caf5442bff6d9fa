package table_test

import (
	"slices"
	"testing"

	"hermitage/api"
)

const rubbish = -5

// spoil writes into entries, and into the room behind them.
func spoil(l []api.Entry) {
	for i := range l[:cap(l)] {
		l[:cap(l)][i] = api.Entry{From: rubbish, Len: rubbish, Dev: rubbish, To: rubbish, Stale: rubbish}
	}
}

// roomy is the same table with room behind its entries.
func roomy(t api.Table) api.Table {
	extra := entries(77, 77, 77, 77, 77, 78, 78, 78, 78, 78)
	t.List = slices.Concat(t.List, extra)[:len(t.List)]
	return t
}

// behind is all of a roomy table's entries, the room behind them, too.
func behind(t api.Table) []api.Entry {
	return t.List[:len(t.List)+2]
}

// calls are some of each kind, those that succeed ahead.
func calls() (good, bad []op) {
	good = []op{
		{kind: "check"}, {kind: "look", n: 10}, {kind: "range", many: 64}, {kind: "range", n: 1, many: 3}, {kind: "range", n: 7, many: 3}, {kind: "range", n: 2},
		{kind: "add", n: 14, p: api.Ptr{Dev: 40, At: 63}}, {kind: "add", n: 14, p: api.Ptr{Dev: 40, At: 62}}, {kind: "add", n: 19, p: api.Ptr{Dev: 1}},
		{kind: "lose", n: 1}, {kind: "lose", n: 13}, {kind: "tidy"}, {kind: "live"},
	}
	bad = []op{{kind: "look"}, {kind: "range", many: -1}, {kind: "range", many: 65}, {kind: "add", n: 13, p: api.Ptr{Dev: 1}}, {kind: "add", n: 20, p: api.Ptr{Dev: 1}}, {kind: "add", n: 14, p: api.Ptr{Dev: 7}}, {kind: "lose"}, {kind: "lose", n: 6}}
	return good, bad
}

// open is a table to the end of which one can still add.
func open() api.Table {
	return tableOf(7, 20, 1, 3, 2, 10, 1, 4, 2, 2, 13, 0, 6, 1, 1, 63, 1, 10, 4, 40, 59, 2)
}

// R1, R2: what is handed in stays as it was, the room behind it too; what is told is new memory, and the same each time.
func TestMemory(t *testing.T) {
	x := roomy(open())
	was := slices.Clone(behind(x))
	good, bad := calls()
	for i, o := range append(good, bad...) {
		first, second := do(x, o), do(x, o)
		if (first.e == api.OK) != (i < len(good)) {
			t.Fatalf("%v: %v", o, first.e)
		}
		spoil(first.l)
		spoil(first.t.List)
		want := wanted(x, o).told()
		if second.told() != want || do(x, o).told() != want {
			t.Errorf("%v: %s: not %s", o, second.told(), want)
		}
		if !slices.Equal(behind(x), was) {
			t.Fatalf("%v: changed: %v", o, behind(x))
		}
	}
}

// R2: the same of tables without entries, and of such as lose all of them.
func TestMemoryOfNone(t *testing.T) {
	for _, from := range []api.Table{tableOf(7, 20), tableOf(7, 20, 3, 2, 1, 0, 2)} {
		x := roomy(from)
		was := slices.Clone(behind(x))
		for _, o := range []op{{kind: "tidy"}, {kind: "range", n: 0, many: 64}, {kind: "add", n: 9, p: api.Ptr{Dev: 1}}, {kind: "live"}} {
			a := do(x, o)
			want := wanted(x, o).told()
			if a.told() != want {
				t.Errorf("%v: %s: not %s", o, a.told(), want)
			}
			spoil(a.l)
			spoil(a.t.List)
			spoil(append(a.t.List, api.Entry{}))
			if !slices.Equal(behind(x), was) {
				t.Fatalf("%v: changed: %v", o, behind(x))
			}
		}
	}
}

// R2: what was told stays, whatever becomes of what was handed in.
func TestNotKept(t *testing.T) {
	good, _ := calls()
	for _, o := range good {
		x := roomy(open())
		want := wanted(x, o).told()
		a := do(x, o)
		spoil(x.List)
		if a.told() != want {
			t.Errorf("%v: kept: %s", o, a.told())
		}
	}
}

// R2: a nil list and an empty one are one.
func TestEmptyLists(t *testing.T) {
	good, bad := calls()
	for _, o := range append(good, bad...) {
		a, b := do(api.Table{Dev: 7, Size: 20}, o), do(api.Table{Dev: 7, Size: 20, List: []api.Entry{}}, o)
		if a.told() != b.told() || a.told() != wanted(tableOf(7, 20), o).told() {
			t.Errorf("%v: %s, %s", o, a.told(), b.told())
		}
	}
}
