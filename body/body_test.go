package body_test

import (
	"math"
	"slices"
	"strings"
	"testing"

	"hermitage/api"
	"hermitage/body"
)

// lengths are those around each multiple of Sector, and both ends of what may be.
func lengths() (l []int) {
	for n := 0; n <= api.MaxText; n++ {
		near := n % api.Sector
		if near <= 1 || near == api.Sector-1 || n >= api.MaxText-1 || n == 100 {
			l = append(l, n)
		}
	}
	return l
}

// text makes one of n bytes, of all kinds of bytes, with a 0 here and there; another one for each seed.
func text(n int, seed byte) string {
	b := make([]byte, n)
	for i := range b {
		b[i] = byte(i*7) + seed
	}
	return string(b)
}

// layout is the pieces of t byte by byte, apart from the program's way.
func layout(t string) (l []string) {
	for at := 0; at < len(t); at += api.Sector {
		var piece [api.Sector]byte
		for k := range piece {
			if at+k < len(t) {
				piece[k] = t[at+k]
			}
		}
		l = append(l, string(piece[:]))
	}
	return l
}

// over is old with t laid over it, byte by byte.
func over(old string, at int, t string) string {
	b := []byte(old)
	for k := range len(t) {
		if at+k < len(b) {
			b[at+k] = t[k]
		} else {
			b = append(b, t[k])
		}
	}
	return string(b)
}

// touched is which pieces a byte from at to end - 1 lies in.
func touched(at, end int) (l []int) {
	for k := at; k < end; k++ {
		if p := k / api.Sector; !slices.Contains(l, p) {
			l = append(l, p)
		}
	}
	return l
}

// P4.1: Cut tells a text's pieces, Join the text of them, of each length there is.
func TestCutJoin(t *testing.T) {
	for n := 0; n <= api.MaxText; n++ {
		for seed := range byte(4) {
			s := text(n, seed)
			l, e := body.Cut(s)
			if e != api.OK || !slices.Equal(l, layout(s)) {
				t.Fatalf("Cut of %d: %q, %v", n, l, e)
			}
			if back, e := body.Join(n, l); e != api.OK || back != s {
				t.Fatalf("Join of %d: %q, %v", n, back, e)
			}
		}
	}
	// What a text ends with may be 0 too: its length tells it from what it is filled with.
	for _, n := range lengths() {
		zero := strings.Repeat("\x00", n)
		l, e := body.Cut(zero)
		back, g := body.Join(n, l)
		if e != api.OK || g != api.OK || back != zero || len(l) != len(layout(zero)) {
			t.Errorf("%d times 0: %q, %v, %v", n, l, e, g)
		}
	}
	for _, n := range []int{201, 202, 223, 224, 225, 1 << 16} {
		if l, e := body.Cut(text(n, 1)); e != api.ErrLimit || len(l) != 0 {
			t.Errorf("Cut of %d: %d, %v", n, len(l), e)
		}
	}
	for i, l := range [][]string{nil, {}} {
		if s, e := body.Join(0, l); e != api.OK || s != "" {
			t.Errorf("%d: %q, %v", i, s, e)
		}
	}
}

// P4.1: Read, from each byte on, also from just behind the last one, of as many as are there, fewer and more.
func TestRead(t *testing.T) {
	for _, n := range lengths() {
		s := text(n, 200)
		l := layout(s)
		for at := 0; at <= n; at++ {
			many := []int{n - at + 1, n, 1 << 32, math.MaxInt - at, math.MaxInt}
			for k := 0; k <= n-at; k++ {
				many = append(many, k)
			}
			for _, k := range many {
				want := s[at:]
				if k < len(want) {
					want = want[:k]
				}
				if x, e := body.Read(n, l, at, k); e != api.OK || x != want {
					t.Fatalf("%d of %d from %d on: %q, %v", k, n, at, x, e)
				}
			}
		}
	}
}

// P4.2, P4.3: Write, at each place, of each length up to MaxText's end: the pieces are those of the text with t in it.
func TestWrite(t *testing.T) {
	for _, n := range lengths() {
		old := text(n, 3)
		l := layout(old)
		for at := 0; at <= n; at++ {
			for size := 0; at+size <= api.MaxText; size++ {
				add := text(size, 77)
				want := over(old, at, add)
				m, x, fresh, e := body.Write(n, l, at, add)
				if e != api.OK || m != len(want) || !slices.Equal(x, layout(want)) {
					t.Fatalf("%d bytes at %d of %d: %d, %q, %v", size, at, n, m, x, e)
				}
				if !slices.Equal(fresh, touched(at, at+size)) {
					t.Fatalf("%d bytes at %d of %d: new are %v", size, at, n, fresh)
				}
			}
		}
	}
}

// P4.2: a piece is new because a byte was laid there, also if it is the byte that was there.
func TestWriteSame(t *testing.T) {
	old := text(100, 5)
	_, x, fresh, e := body.Write(100, layout(old), 30, old[30:70])
	if e != api.OK || !slices.Equal(x, layout(old)) || !slices.Equal(fresh, []int{0, 1, 2}) {
		t.Errorf("%v, %v", fresh, e)
	}
}

// P4.3: Join of Write is the text with t in it, and so on through a row of writes and sizes.
func TestRow(t *testing.T) {
	n, l, want := 0, []string(nil), ""
	x := uint32(1)
	below := func(k int) int {
		x = x*1664525 + 1013904223
		return int(x>>8) % k
	}
	for i := range 5000 {
		var e api.Errno
		if below(4) > 0 {
			at := below(n + 1)
			add := text(below(api.MaxText-at+1), byte(i))
			n, l, _, e = body.Write(n, l, at, add)
			want = over(want, at, add)
		} else {
			to := below(api.MaxText + 1)
			n, l, _, e = body.Size(n, l, to)
			want = (want + strings.Repeat("\x00", api.MaxText))[:to]
		}
		s, g := body.Join(n, l)
		if e != api.OK || g != api.OK || s != want || n != len(want) {
			t.Fatalf("%d: %d, %q, %v, %v", i, n, s, e, g)
		}
	}
}

// P4.2: Size, from each length to each: longer, shorter, and as it is.
func TestSize(t *testing.T) {
	for n := 0; n <= api.MaxText; n++ {
		old := text(n, 9)
		l := layout(old)
		for to := 0; to <= api.MaxText; to++ {
			want := (old + strings.Repeat("\x00", api.MaxText))[:to]
			var news []int
			if to > n {
				for p := range layout(want) {
					if p >= len(l) {
						news = append(news, p)
					}
				}
			}
			if to < n && to%api.Sector != 0 {
				news = []int{len(layout(want)) - 1}
			}
			m, x, fresh, e := body.Size(n, l, to)
			if e != api.OK || m != to || !slices.Equal(x, layout(want)) || !slices.Equal(fresh, news) {
				t.Fatalf("from %d to %d: %d, %q, %v, %v", n, to, m, x, fresh, e)
			}
		}
	}
}
