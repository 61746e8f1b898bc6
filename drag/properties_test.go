package drag_test

import (
	"math/rand"
	"testing"

	"tumblehome/api"
	"tumblehome/drag"
)

// reckonable are samples that can be reckoned, with wide ranges.
func reckonable(n int, seed int64) []sample {
	var out []sample
	for _, s := range samples(n, seed, 1001, 2501) {
		if _, e := drag.Span(s.t, s.lines); e == api.OK {
			out = append(out, s)
		}
	}
	return out
}

func span(t *testing.T, x api.DragTest, lines []api.DragLine) api.Range {
	t.Helper()
	s, e := drag.Span(x, lines)
	if e != api.OK {
		t.Fatal(x, lines, e)
	}
	return s
}

func TestP4_9Boxed(t *testing.T) {
	r := rand.New(rand.NewSource(21))
	for _, s := range reckonable(300, 22) {
		all := span(t, s.t, s.lines)
		for range 60 {
			x := anyTrue(r, s.t)
			for _, l := range s.lines {
				if n, e := drag.Ship(s.t, l, x); e != api.OK || n < all.Lo || n > all.Hi {
					t.Fatal(s, x, l, n, e, all)
				}
			}
		}
	}
}

func TestP4_10Attained(t *testing.T) {
	for _, s := range append(reckonable(500, 23), sample{one(), linesOf(lineA(), lineB())}) {
		checkEnds(t, s)
	}
}

// part is a range within a range.
func part(r *rand.Rand, x api.Range) api.Range {
	a, b := x.Lo+r.Int63n(x.Hi-x.Lo+1), x.Lo+r.Int63n(x.Hi-x.Lo+1)
	return rg(min(a, b), max(a, b))
}

func isWithin(a, b api.Range) bool { return b.Lo <= a.Lo && a.Hi <= b.Hi }

func TestP4_11Narrower(t *testing.T) {
	r := rand.New(rand.NewSource(24))
	for _, s := range reckonable(300, 25) {
		all := span(t, s.t, s.lines)
		for i := range rangesOf(&s.t) {
			less := s.t
			*rangesOf(&less)[i] = part(r, *rangesOf(&less)[i])
			if n := span(t, less, s.lines); !isWithin(n, all) {
				t.Fatal(s, less, n, all)
			}
		}
		joined := rg(high, low)
		for i, l := range s.lines {
			each := span(t, s.t, linesOf(l))
			joined = rg(min(joined.Lo, each.Lo), max(joined.Hi, each.Hi))
			if less := append(copyOf(s.lines[:i]), s.lines[i+1:]...); len(less) > 0 && !isWithin(span(t, s.t, less), all) {
				t.Fatal(s, less, all)
			}
		}
		if joined != all {
			t.Fatal(s, joined, all)
		}
	}
}

func TestP4_12Falls(t *testing.T) {
	r := rand.New(rand.NewSource(26))
	for range 400 {
		l := anyLine(r, 1+r.Int63n(60), 70+r.Int63n(200))
		last, next := l.Cf[0], 0
		for re := l.Re[0]; re <= l.Re[len(l.Re)-1]; re++ {
			n, e := drag.Friction(l, re)
			if e != api.OK || n > last {
				t.Fatal(l, re, n, e, last)
			}
			if re == l.Re[next] {
				next = min(next+1, len(l.Re)-1)
			}
			if n > l.Cf[next-1] || n < l.Cf[next] {
				t.Fatal(l, re, n)
			}
			last = n
		}
	}
}

func TestP4_13Same(t *testing.T) {
	r := rand.New(rand.NewSource(27))
	for _, s := range samples(400, 28, 1001, 2501) {
		s.t.Alpha, s.t.Sea, s.t.Block, s.t.Rough = 1, s.t.Tank, rg(0, 0), rg(0, 0)
		x := anyTrue(r, s.t)
		x.Sea = x.Tank
		want := divided(list(20000000000, x.Force), s.t.Wet, s.t.Speed, s.t.Speed).Int64()
		n, e := drag.Ship(s.t, lineOf(list(1, 40, 1000000000), list(900, 333, 2)), x)
		if modelOf(s.t, x.Tank) > 0 && (n != min(want, 1000000000) || e != api.OK) {
			t.Fatal(s.t, x, n, e, want)
		}
	}
}
