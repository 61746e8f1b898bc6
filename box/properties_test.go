package box_test

import (
	"math/big"
	"math/rand"
	"slices"
	"testing"

	"tumblehome/api"
	"tumblehome/box"
)

func span(t *testing.T, h api.BoxHull, what int) (*big.Rat, *big.Rat) {
	t.Helper()
	s, e := box.Span(h, what)
	if e != api.OK {
		t.Fatal(h, what, e)
	}
	return ratOf(s.Lo), ratOf(s.Hi)
}

func value(t *testing.T, h api.BoxHull, offsets [][]int64, what int) *big.Rat {
	t.Helper()
	n, e := box.Value(h, offsets, what)
	if e != api.OK {
		t.Fatal(h, offsets, what, e)
	}
	return ratOf(n)
}

func isIn(n, lo, hi *big.Rat) bool { return lo.Cmp(n) <= 0 && n.Cmp(hi) <= 0 }

// isBeyondEach tells whether a number is beyond a bound that is accepted.
func isBeyondEach(h api.BoxHull, what int, n *big.Rat, bound api.Ratio) bool {
	side := n.Cmp(ratOf(bound))
	return side > 0 && box.CheckBound(h, what, bound, true) == api.OK ||
		side < 0 && box.CheckBound(h, what, bound, false) == api.OK
}

func TestP2_8Boxed(t *testing.T) {
	r := rand.New(rand.NewSource(3))
	for _, h := range append(append(samples(60), large(60)...), largest(), hollow()) {
		v, e := box.Volumes(h)
		if e != api.OK {
			t.Fatal(h, e)
		}
		some := [][][]int64{lows(h), highs(h)}
		for range 20 {
			some = append(some, anyTrue(r, h))
		}
		for _, what := range kinds {
			lo, hi := span(t, h, what)
			for i, offsets := range some {
				n, e := box.Volume(h, offsets)
				if e != api.OK || !isIn(ratOf(n), ratOf(v.Lo), ratOf(v.Hi)) {
					t.Fatal(h, offsets, n, e)
				}
				x := value(t, h, offsets, what)
				if !isIn(x, lo, hi) {
					t.Fatal(h, offsets, what, x, lo, hi)
				}
				other, _ := box.Value(h, some[len(some)-1-i], what) // some bound between the ends
				if isBeyondEach(h, what, x, other) {
					t.Fatal(h, offsets, what, x, other)
				}
			}
		}
	}
}

func TestP2_9Attained(t *testing.T) {
	for _, h := range append(append(samples(150), large(60)...), largest(), hollow(), two()) {
		for _, what := range kinds {
			s, e := box.Span(h, what)
			if e != api.OK {
				t.Fatal(h, what, e)
			}
			for _, up := range []bool{false, true} {
				checkEnd(t, h, what, up)
				end := s.Lo
				if up {
					end = s.Hi
				}
				if e := box.CheckBound(h, what, end, up); e != api.OK {
					t.Fatal(h, what, up, end, e)
				}
				for _, b := range around(ratOf(end)) {
					want := api.OK
					if side := b.Cmp(ratOf(end)); up && side < 0 || !up && side > 0 {
						want = api.ErrSum
					}
					bound := ratio(b.Num().Int64(), b.Denom().Int64())
					if e := box.CheckBound(h, what, bound, up); e != want {
						t.Fatal(h, what, up, end, bound, e)
					}
				}
			}
		}
	}
}

// narrower are hulls of which one range is narrower by one.
func narrower(h api.BoxHull) []api.BoxHull {
	var out []api.BoxHull
	for i, station := range h.Offsets {
		for k, r := range station {
			if r.Lo == r.Hi {
				continue
			}
			a, b := copyOf(h), copyOf(h)
			a.Offsets[i][k].Lo++
			b.Offsets[i][k].Hi--
			out = append(out, a, b)
		}
	}
	return out
}

func TestP2_10Narrower(t *testing.T) {
	for _, h := range append(append(samples(60), large(20)...), hollow()) {
		v, _ := box.Volumes(h)
		for _, what := range kinds {
			lo, hi := span(t, h, what)
			for _, less := range narrower(h) {
				w, e := box.Volumes(less)
				if e != api.OK || !isIn(ratOf(w.Lo), ratOf(v.Lo), ratOf(v.Hi)) || !isIn(ratOf(w.Hi), ratOf(v.Lo), ratOf(v.Hi)) {
					t.Fatal(h, less, v, w, e)
				}
				a, b := span(t, less, what)
				if !isIn(a, lo, hi) || !isIn(b, lo, hi) {
					t.Fatal(h, less, what, a, b, lo, hi)
				}
			}
		}
	}
}

func TestP2_10OneTrueHull(t *testing.T) {
	r := rand.New(rand.NewSource(5))
	for _, h := range append(append(samples(60), large(60)...), largest()) {
		offsets := anyTrue(r, h)
		for i, station := range offsets {
			for k, y := range station {
				h.Offsets[i][k] = rg(y, y)
			}
		}
		if box.CheckHull(h) != api.OK {
			continue // all of it was 0
		}
		n, _ := box.Volume(h, offsets)
		if v, e := box.Volumes(h); v != (api.BoxSpan{Lo: n, Hi: n}) || e != api.OK {
			t.Fatal(h, v, n, e)
		}
		for _, what := range kinds {
			n, _ := box.Value(h, offsets, what)
			if s, e := box.Span(h, what); s != (api.BoxSpan{Lo: n, Hi: n}) || e != api.OK {
				t.Fatal(h, what, s, n, e)
			}
		}
	}
}

func TestP2_11Scaled(t *testing.T) {
	for _, h := range append(append(samples(100), large(60)...), two(), hollow()) {
		h.Space = min(h.Space, api.MaxBoxSpace/2)
		wide, back := copyOf(h), copyOf(h)
		wide.Space *= 2
		slices.Reverse(back.Offsets)
		for _, what := range kinds {
			lo, hi := span(t, h, what)
			a, b := span(t, wide, what)
			c, d := span(t, back, what)
			if what == api.BoxAlong {
				a, b = a.Quo(a, big.NewRat(2, 1)), b.Quo(b, big.NewRat(2, 1))
				far := big.NewRat(h.Space*int64(len(h.Offsets)-1), 1)
				c, d = new(big.Rat).Sub(far, d), new(big.Rat).Sub(far, c)
			}
			if a.Cmp(lo) != 0 || b.Cmp(hi) != 0 {
				t.Fatal(h, what, "not as with twice the space", a, b)
			}
			if c.Cmp(lo) != 0 || d.Cmp(hi) != 0 {
				t.Fatal(h, what, "not as in the other order", c, d)
			}
		}
	}
}

func TestP2_12Floats(t *testing.T) {
	r := rand.New(rand.NewSource(9))
	for _, h := range append(append(samples(100), large(60)...), two(), hollow(), largest()) {
		for _, offsets := range [][][]int64{lows(h), highs(h), anyTrue(r, h)} {
			if value(t, h, offsets, api.BoxMeta).Cmp(value(t, h, offsets, api.BoxAbove)) < 0 {
				t.Fatal(h, offsets)
			}
		}
		lo, hi := span(t, h, api.BoxAbove)
		a, b := span(t, h, api.BoxMeta)
		if a.Cmp(lo) < 0 || b.Cmp(hi) < 0 {
			t.Fatal(h, lo, hi, a, b)
		}
	}
}
