package table_test

import (
	"fmt"
	"math"
	"slices"
	"testing"

	"hermitage/api"
	"hermitage/table"
)

// op is a call: its kind; the sector; of range how many; of add the place.
type op struct {
	kind string
	n    int
	many int
	p    api.Ptr
}

func kinds() []string {
	return []string{"check", "look", "range", "add", "lose", "tidy", "live"}
}

// answer is all that a call tells.
type answer struct {
	p api.Ptr
	l []api.Entry
	t api.Table
	n int
	e api.Errno
}

// told is all of it as a text; a nil list and an empty one are one.
func (a answer) told() string {
	return fmt.Sprint(a.e, " ", a.n, " ", a.p, " ", a.l, " ", a.t)
}

// do lets the program do it.
func do(t api.Table, o op) (a answer) {
	switch o.kind {
	case "check":
		a.e = table.Check(t)
	case "look":
		a.p, a.e = table.Look(t, o.n)
	case "range":
		a.l, a.e = table.Range(t, o.n, o.many)
	case "add":
		a.t, a.e = table.Add(t, o.n, o.p)
	case "lose":
		a.t, a.e = table.Lose(t, o.n)
	case "tidy":
		a.t, a.e = table.Tidy(t)
	case "live":
		a.n, a.e = table.Live(t)
	}
	return a
}

// holds asks for what one call is to tell.
func holds(t *testing.T, what string, x api.Table, o op, want answer) {
	t.Helper()
	if a := do(x, o); a.told() != want.told() {
		t.Errorf("%s: %v of %v: %s: not %s", what, o, x, a.told(), want.told())
	}
}

// entries is one of each five numbers: From, Len, Dev, To, Stale.
func entries(x ...int) (l []api.Entry) {
	for i := 0; i+4 < len(x); i += 5 {
		l = append(l, api.Entry{From: x[i], Len: x[i+1], Dev: x[i+2], To: x[i+3], Stale: x[i+4]})
	}
	return l
}

// tableOf is one, its entries as entries says.
func tableOf(dev, size int, x ...int) api.Table {
	return api.Table{Dev: dev, Size: size, List: entries(x...)}
}

// sample is a table with entries side by side (the second one going on where the first one ends), with gaps, and one that ends at Size.
func sample() api.Table {
	return tableOf(7, 20, 1, 3, 2, 10, 1, 4, 2, 2, 13, 0, 6, 1, 1, 63, 1, 10, 4, 40, 60, 4, 17, 3, 2, 0, 2)
}

// twin is a copy of all of it.
func twin(t api.Table) api.Table {
	t.List = slices.Clone(t.List)
	return t
}

// chart is a table as the tests keep it: of each sector which strip it is in (0: none) and where it lies; of each strip how many sectors are stale.
type chart struct {
	dev   int
	in    []int
	lies  []api.Ptr
	stale map[int]int
}

func blank(dev, size int) chart {
	return chart{dev: dev, in: make([]int, size), lies: make([]api.Ptr, size), stale: map[int]int{}}
}

// end is the first sector behind all that are in a strip.
func (c chart) end() int {
	for n := len(c.in) - 1; n >= 0; n-- {
		if c.in[n] > 0 {
			return n + 1
		}
	}
	return 0
}

func (c chart) mayLieAt(p api.Ptr) bool {
	return p.Dev >= 1 && p.Dev <= api.MaxIDs && p.Dev != c.dev && p.At >= 0 && p.At < api.MaxSize
}

// lay makes the next sector one of a strip, if the document allows it.
func (c chart) lay(strip, n int, p api.Ptr) bool {
	if n < c.end() || n >= len(c.in) || !c.mayLieAt(p) {
		return false
	}
	c.in[n], c.lies[n] = strip, p
	return true
}

func (c chart) len(strip int) (n int) {
	for _, x := range c.in {
		if x == strip {
			n++
		}
	}
	return n
}

// tidy takes the strips away whose sectors are all stale.
func (c chart) tidy() chart {
	left := slices.Clone(c.in)
	for n, strip := range c.in {
		if strip > 0 && c.stale[strip] == c.len(strip) {
			left[n] = 0
		}
	}
	c.in = left
	return c
}

// rows are the strips' sectors from n on that are wanted, as entries without stale ones.
func (c chart) rows(wanted func(n int) bool) (l []api.Entry) {
	last := 0
	for n, strip := range c.in {
		if strip == 0 || !wanted(n) {
			continue
		}
		if strip != last {
			l = append(l, api.Entry{From: n, Dev: c.lies[n].Dev, To: c.lies[n].At})
		}
		l[len(l)-1].Len++
		last = strip
	}
	return l
}

// table leaves out the strips that have no sector any more.
func (c chart) table() api.Table {
	l := c.rows(func(int) bool { return true })
	for i, x := range l {
		l[i].Stale = c.stale[c.in[x.From]]
	}
	return api.Table{Dev: c.dev, Size: len(c.in), List: l}
}

// chartOf is what the document's words make of a table; false, if it may not be.
func chartOf(t api.Table) (chart, bool) {
	if t.Dev < 1 || t.Dev > api.MaxIDs || t.Size < 1 || t.Size > api.MaxSize {
		return chart{}, false
	}
	c := blank(t.Dev, t.Size)
	for i, x := range t.List {
		if x.Len < 1 || x.Len > api.MaxSize || x.Stale < 0 || x.Stale > x.Len || x.From < 0 || x.From >= t.Size || x.To < 0 || x.To >= api.MaxSize {
			return chart{}, false
		}
		for n := range x.Len {
			if !c.lay(i+1, x.From+n, api.Ptr{Dev: x.Dev, At: x.To + n}) {
				return chart{}, false
			}
		}
		c.stale[i+1] = x.Stale
	}
	return c, true
}

// wanted is what the document asks for.
func wanted(t api.Table, o op) (a answer) {
	c, mayBe := chartOf(t)
	if !mayBe {
		return answer{e: api.ErrForm}
	}
	strip := 0
	if o.n >= 0 && o.n < len(c.in) {
		strip = c.in[o.n]
	}
	switch o.kind {
	case "look":
		if strip == 0 {
			return answer{e: api.ErrNone}
		}
		a.p = c.lies[o.n]
	case "range":
		return wantedRange(c, o)
	case "add":
		return wantedAdd(c, o)
	case "lose":
		if strip == 0 {
			return answer{e: api.ErrNone}
		}
		if c.stale[strip] == c.len(strip) {
			return answer{e: api.ErrState}
		}
		c.stale[strip]++
		a.t = c.table()
	case "tidy":
		a.t = c.tidy().table()
	case "live":
		for strip, stale := range c.stale {
			a.n += c.len(strip) - stale
		}
	}
	return a
}

func wantedRange(c chart, o op) answer {
	if o.many < 0 || o.many > api.MaxSize {
		return answer{e: api.ErrForm}
	}
	asked := map[int]int{}
	for i := range o.many {
		if o.n <= math.MaxInt-i {
			asked[o.n+i]++
		}
	}
	return answer{l: c.rows(func(n int) bool { return asked[n] > 0 })}
}

func wantedAdd(c chart, o op) answer {
	strip := 1000
	if end := c.end(); end > 0 && o.n == end {
		if q := c.lies[end-1]; q.Dev == o.p.Dev && q.At == o.p.At-1 {
			strip = c.in[end-1]
		}
	}
	if !c.lay(strip, o.n, o.p) {
		return answer{e: api.ErrForm}
	}
	return answer{t: c.table()}
}

// dice throws numbers that are always the same.
type dice uint64

func (d *dice) below(n int) int {
	*d = *d*6364136223846793005 + 1442695040888963407
	return int(*d >> 33 % dice(n))
}

func pick[T any](d *dice, l ...T) T {
	return l[d.below(len(l))]
}

// place is one that may be, of a few devices, so that strips often go on.
func (d *dice) place(dev int) api.Ptr {
	p := api.Ptr{Dev: pick(d, 1, 2, api.MaxIDs), At: pick(d, 0, 1, d.below(api.MaxSize), api.MaxSize-1)}
	if p.Dev == dev {
		p.Dev = 3
	}
	return p
}

// chart is one that may be: a small one or a great one, emptier or fuller, its strips often side by side.
func (d *dice) chart() chart {
	c := blank(pick(d, 1, 7, api.MaxIDs), pick(d, 1, 2, 3, 5, 8, 13, api.MaxSize))
	gaps, more := pick(d, 1, 3, 9), pick(d, 1, 2, 4)
	for n := range c.in {
		if d.below(gaps+1) == 0 {
			continue
		}
		strip, p := n+1, d.place(c.dev)
		if n > 0 && c.in[n-1] > 0 && d.below(more+1) > 0 && c.lies[n-1].At < api.MaxSize-1 {
			p = api.Ptr{Dev: c.lies[n-1].Dev, At: c.lies[n-1].At + 1}
			if d.below(5) > 0 {
				strip = c.in[n-1]
			}
		}
		c.lay(strip, n, p)
	}
	for _, strip := range c.in {
		if strip > 0 {
			c.stale[strip] = pick(d, 0, c.len(strip), d.below(c.len(strip)+1))
		}
	}
	return c
}

// op is a call of a chart's table: one that succeeds as often as not.
func (d *dice) op(c chart) op {
	o := op{kind: pick(d, kinds()...), n: d.below(len(c.in)+4) - 2, many: d.below(api.MaxSize+3) - 1, p: d.place(c.dev)}
	if d.below(2) == 0 {
		o.n = min(c.end()+d.below(3), len(c.in)-1)
	}
	if d.below(2) == 0 {
		o.many = d.below(5) - 1
	}
	if end := c.end(); end > 0 && d.below(2) == 0 {
		o.p = c.lies[end-1]
		o.p.At++
	}
	if d.below(20) == 0 {
		o.n = pick(d, math.MinInt, math.MinInt+63, math.MaxInt, math.MaxInt-63, 1<<32)
	}
	if d.below(20) == 0 {
		o.p = pick(d, api.Ptr{}, api.Ptr{Dev: c.dev}, api.Ptr{Dev: 41}, api.Ptr{Dev: 3, At: -1}, api.Ptr{Dev: 3, At: api.MaxSize}, api.Ptr{Dev: 3, At: math.MaxInt})
	}
	return o
}
