package box_test

import (
	"math/big"
	"math/rand"
	"reflect"
	"slices"
	"testing"

	"tumblehome/api"
	"tumblehome/box"
)

// with is a valid hull in which one range is another one.
func with(r api.Range) api.BoxHull {
	h := two()
	h.Offsets[1][0] = r
	return h
}

type invalidHull struct {
	h api.BoxHull
	e api.Errno
}

// invalid are hulls with the error of each.
func invalid() []invalidHull {
	r := rg(1, 1)
	return []invalidHull{
		{api.BoxHull{}, api.ErrMany},
		{api.BoxHull{Space: 10, Step: 6}, api.ErrMany},
		{api.BoxHull{Space: 10, Step: 6, Offsets: [][]api.Range{}}, api.ErrMany},
		{even(10, 6, 1, 2, r), api.ErrMany},
		{even(10, 6, 11, 2, r), api.ErrMany},
		{even(10, 6, 5000, 2, r), api.ErrMany},
		{even(10, 6, 2, 0, r), api.ErrMany},
		{even(10, 6, 2, 1, r), api.ErrMany},
		{even(10, 6, 2, 7, r), api.ErrMany},
		{even(10, 6, 2, 5000, r), api.ErrMany},
		{even(0, 0, 1, 2, rg(1, 0)), api.ErrMany},
		{hullOf(0, 6, row(r), row(r, r)), api.ErrMany},
		{hullOf(0, 6, row(r, r), row(r)), api.ErrEqual},
		{hullOf(10, 6, row(r, r), row(r, r, r)), api.ErrEqual},
		{hullOf(10, 6, row(r, r), row(r, r), nil), api.ErrEqual},
		{hullOf(10, 6, slices.Repeat(row(r), 6), slices.Repeat(row(r), 7)), api.ErrEqual},
		{hullOf(10, 6, row(rg(1, 0), r), row(r, r), row(r)), api.ErrEqual},
		{even(0, 6, 2, 2, r), api.ErrArg},
		{even(-1, 6, 2, 2, r), api.ErrArg},
		{even(1001, 6, 2, 2, r), api.ErrArg},
		{even(low, 6, 2, 2, r), api.ErrArg},
		{even(high, 6, 2, 2, r), api.ErrArg},
		{even(10, 0, 2, 2, r), api.ErrArg},
		{even(10, -1, 2, 2, r), api.ErrArg},
		{even(10, 101, 2, 2, r), api.ErrArg},
		{even(10, low, 2, 2, r), api.ErrArg},
		{even(10, high, 2, 2, r), api.ErrArg},
		{with(rg(1, 0)), api.ErrArg},
		{with(rg(-1, 0)), api.ErrArg},
		{with(rg(-1, -1)), api.ErrArg},
		{with(rg(500, 501)), api.ErrArg},
		{with(rg(501, 501)), api.ErrArg},
		{with(rg(0, 21)), api.ErrArg},
		{with(rg(479, 500)), api.ErrArg},
		{with(rg(low, low)), api.ErrArg},
		{with(rg(high, high)), api.ErrArg},
		{with(rg(high, low)), api.ErrArg}, // Hi - Lo wraps around to 1
		{with(rg(low, high)), api.ErrArg}, // Hi - Lo wraps around to -1
		{even(10, 6, 2, 2, rg(0, 0)), api.ErrArg},
		{even(10, 6, 10, 6, rg(0, 20)), api.ErrArg},
	}
}

func TestP2_1CheckHull(t *testing.T) {
	for i, x := range invalid() {
		if e := box.CheckHull(x.h); e != x.e {
			t.Error(i, e)
		}
	}
	zero := rg(0, 0)
	for i, h := range []api.BoxHull{
		two(), largest(),
		even(1, 1, 2, 2, rg(1, 1)), even(1000, 100, 10, 6, rg(500, 500)),
		even(10, 6, 10, 2, rg(1, 21)), even(10, 6, 2, 6, rg(480, 500)),
		with(rg(0, 0)), with(rg(0, 20)), with(rg(480, 500)), with(rg(500, 500)),
		hullOf(10, 6, row(rg(1, 1), zero), row(zero, zero)),
		hullOf(10, 6, row(zero, zero), row(rg(0, 20), rg(1, 20))),
	} {
		if e := box.CheckHull(h); e != api.OK {
			t.Error(i, e)
		}
	}
}

func TestP2_1HullFirst(t *testing.T) {
	for i, x := range invalid() {
		if e := box.CheckTrue(x.h, nil); e != x.e {
			t.Error("CheckTrue", i, e)
		}
		if n, e := box.Volume(x.h, nil); n != ratio(0, 0) || e != x.e {
			t.Error("Volume", i, n, e)
		}
		if n, e := box.Value(x.h, nil, 3); n != ratio(0, 0) || e != x.e {
			t.Error("Value", i, n, e)
		}
		if s, e := box.Volumes(x.h); s != (api.BoxSpan{}) || e != x.e {
			t.Error("Volumes", i, s, e)
		}
		if s, e := box.Span(x.h, 3); s != (api.BoxSpan{}) || e != x.e {
			t.Error("Span", i, s, e)
		}
		if l, e := box.End(x.h, 3, true); len(l) != 0 || e != x.e {
			t.Error("End", i, l, e)
		}
		if e := box.CheckBound(x.h, 3, ratio(0, 0), true); e != x.e {
			t.Error("CheckBound", i, e)
		}
	}
}

func TestP2_2CheckTrue(t *testing.T) {
	for i, x := range []struct {
		h api.BoxHull
		l [][]int64
		e api.Errno
	}{
		{two(), [][]int64{{2, 6}, {0, 3}}, api.OK},
		{two(), [][]int64{{4, 6}, {1, 3}}, api.OK},
		{largest(), lows(largest()), api.OK},
		{largest(), highs(largest()), api.OK},
		{two(), nil, api.ErrEqual},
		{two(), [][]int64{}, api.ErrEqual},
		{two(), [][]int64{{2, 6}}, api.ErrEqual},
		{two(), [][]int64{{2, 6}, {0, 3}, {0, 3}}, api.ErrEqual},
		{two(), [][]int64{{2, 6}, {0}}, api.ErrEqual},
		{two(), [][]int64{{2, 6}, nil}, api.ErrEqual},
		{two(), [][]int64{{2}, {0, 3}}, api.ErrEqual},
		{two(), [][]int64{{2, 6}, {0, 3, 3}}, api.ErrEqual},
		{two(), [][]int64{{2, 6, 6, 6, 6, 6, 6, 6}, {0, 3}}, api.ErrEqual},
		{two(), [][]int64{{99, 6}, {0}}, api.ErrEqual},
		{two(), [][]int64{{99, 6}}, api.ErrEqual},
		{two(), [][]int64{{1, 6}, {0, 3}}, api.ErrRange},
		{two(), [][]int64{{5, 6}, {0, 3}}, api.ErrRange},
		{two(), [][]int64{{2, 7}, {0, 3}}, api.ErrRange},
		{two(), [][]int64{{2, 6}, {-1, 3}}, api.ErrRange},
		{two(), [][]int64{{2, 6}, {0, 4}}, api.ErrRange},
		{two(), [][]int64{{2, 6}, {0, 2}}, api.ErrRange},
		{two(), [][]int64{{low, 6}, {0, 3}}, api.ErrRange},
		{two(), [][]int64{{2, 6}, {0, high}}, api.ErrRange},
	} {
		if e := box.CheckTrue(x.h, x.l); e != x.e {
			t.Error(i, e)
		}
		if n, e := box.Volume(x.h, x.l); e != x.e || e != api.OK && n != ratio(0, 0) {
			t.Error("Volume", i, n, e)
		}
		if n, e := box.Value(x.h, x.l, api.BoxMeta); e != x.e || e != api.OK && n != ratio(0, 0) {
			t.Error("Value", i, n, e)
		}
		want := x.e // that of what comes last
		if want == api.OK {
			want = api.ErrRange
		}
		if n, e := box.Value(x.h, x.l, 3); n != ratio(0, 0) || e != want {
			t.Error("Value of no kind", i, n, e)
		}
	}
}

func TestP2_3VolumeAndValue(t *testing.T) {
	offsets := [][]int64{{2, 6}, {0, 3}}
	if n, e := box.Volume(two(), offsets); n != ratio(330, 1) || e != api.OK {
		t.Error(n, e)
	}
	for what, want := range []api.Ratio{ratio(30, 11), ratio(54, 11), ratio(81, 11)} {
		if n, e := box.Value(two(), offsets, what); n != want || e != api.OK {
			t.Error(what, n, e)
		}
	}
	// a volume with a half, and centres at the first station and the lowest waterline
	corner := hullOf(1, 1, row(rg(1, 1), rg(0, 0)), row(rg(0, 0), rg(0, 0)))
	if n, e := box.Volume(corner, lows(corner)); n != ratio(1, 2) || e != api.OK {
		t.Error(n, e)
	}
	for _, what := range kinds {
		if n, e := box.Value(corner, lows(corner), what); n != ratio(0, 1) || e != api.OK {
			t.Error(what, n, e)
		}
	}
	// inner stations and waterlines count twice, the first and the last ones once
	inner := hullOf(10, 6, row(rg(1, 1), rg(1, 1), rg(1, 1)), row(rg(1, 1), rg(1, 1), rg(4, 4)), row(rg(1, 1), rg(1, 1), rg(1, 1)))
	if n, e := box.Volume(inner, lows(inner)); n != ratio(660, 1) || e != api.OK {
		t.Error(n, e)
	}
	for what, want := range []api.Ratio{ratio(10, 1), ratio(84, 11), ratio(1642, 198)} {
		want := ratOf(want)
		if n, e := box.Value(inner, lows(inner), what); !same(n, want) || e != api.OK {
			t.Error(what, n, e)
		}
	}
}

func TestP2_3Samples(t *testing.T) {
	r := rand.New(rand.NewSource(7))
	for _, h := range append(append(samples(200), large(200)...), largest()) {
		for _, offsets := range [][][]int64{lows(h), highs(h), anyTrue(r, h)} {
			if n, e := box.Volume(h, offsets); !same(n, volumeOf(h, offsets)) || e != api.OK {
				t.Fatal(h, offsets, n, e)
			}
			for _, what := range kinds {
				if n, e := box.Value(h, offsets, what); !same(n, valueOf(h, offsets, what)) || e != api.OK {
					t.Fatal(h, offsets, what, n, e)
				}
			}
		}
	}
}

func TestP2_4Volumes(t *testing.T) {
	if s, e := box.Volumes(two()); s.Lo != ratio(330, 1) || s.Hi != ratio(420, 1) || e != api.OK {
		t.Error(s, e)
	}
	if s, e := box.Volumes(largest()); s.Lo != ratio(4320000000, 1) || s.Hi != ratio(4500000000, 1) || e != api.OK {
		t.Error(s, e)
	}
	for _, h := range samples(200) {
		lo, hi := spanOf(allTrue(h), func(l [][]int64) *big.Rat { return volumeOf(h, l) })
		if s, e := box.Volumes(h); !same(s.Lo, lo) || !same(s.Hi, hi) || e != api.OK {
			t.Fatal(h, s, e, "not", lo, hi)
		}
	}
}

// notKinds are numbers of what that nothing is asked by.
var notKinds = []int{-1, 3, 4, low, high}

func TestP2_5Span(t *testing.T) {
	for i, x := range []struct {
		h    api.BoxHull
		what int
		want api.BoxSpan
	}{
		{two(), api.BoxAlong, api.BoxSpan{Lo: ratio(30, 13), Hi: ratio(10, 3)}},
		{two(), api.BoxAbove, api.BoxSpan{Lo: ratio(27, 7), Hi: ratio(54, 11)}},
		// the least metacentre is that of the offset 4, between the ends
		{hollow(), api.BoxMeta, api.BoxSpan{Lo: ratio(1085, 36), Hi: ratio(406, 9)}},
	} {
		if s, e := box.Span(x.h, x.what); s != x.want || e != api.OK {
			t.Error(i, s, e)
		}
	}
	for _, what := range notKinds {
		if s, e := box.Span(two(), what); s != (api.BoxSpan{}) || e != api.ErrRange {
			t.Error(what, s, e)
		}
	}
	for _, h := range tried() {
		all := allTrue(h)
		for _, what := range kinds {
			lo, hi := spanOf(all, func(l [][]int64) *big.Rat { return valueOf(h, l, what) })
			if s, e := box.Span(h, what); !same(s.Lo, lo) || !same(s.Hi, hi) || e != api.OK {
				t.Fatal(h, what, s, e, "not", lo, hi)
			}
		}
	}
}

// hollow is a hull with the least metacentre between the ends of a range.
func hollow() api.BoxHull {
	return hullOf(10, 1, row(rg(10, 10), rg(10, 10)), row(rg(0, 0), rg(0, 10)))
}

// tried are hulls of which all true ones can be tried: samples, and others with one or two wide ranges on the highest waterline.
func tried() []api.BoxHull {
	out := append(samples(150), two(), hollow())
	for _, step := range []int64{1, 3, 10, 100} {
		for top := int64(5); top <= 500; top *= 3 {
			for _, wide := range []api.Range{rg(0, 10), rg(0, 20), rg(15, 35)} {
				out = append(out,
					hullOf(10, step, row(rg(13, 13), rg(top, top)), row(rg(0, 0), wide)),
					hullOf(10, step, row(rg(1, 1), wide), row(rg(4, 5), rg(top, top)), row(rg(0, 0), rg(2, 18))))
			}
		}
	}
	return out
}

// Of large hulls the ends are proved: End tells a hull that has it, and no true hull is beyond it.
func TestP2_5SpanOfLargeHulls(t *testing.T) {
	for _, h := range append(large(40), largest(), even(1000, 100, 10, 6, rg(1, 21))) {
		for _, what := range kinds {
			s, e := box.Span(h, what)
			if e != api.OK || isBeyond(h, what, ratOf(s.Lo), false) || isBeyond(h, what, ratOf(s.Hi), true) {
				t.Fatal(h, what, s, e)
			}
			for _, up := range []bool{false, true} {
				checkEnd(t, h, what, up)
			}
		}
	}
}

// checkEnd checks that End tells a true hull that has the end of Span.
func checkEnd(t *testing.T, h api.BoxHull, what int, up bool) {
	t.Helper()
	s, _ := box.Span(h, what)
	want := s.Lo
	if up {
		want = s.Hi
	}
	l, e := box.End(h, what, up)
	if f := box.CheckTrue(h, l); e != api.OK || f != api.OK {
		t.Fatal(h, what, up, l, e, f)
	}
	if n := valueOf(h, l, what); !same(want, n) {
		t.Fatal(h, what, up, l, n, "not", want)
	}
}

func TestP2_6End(t *testing.T) {
	l, e := box.End(two(), api.BoxAlong, true)
	if !reflect.DeepEqual(l, [][]int64{{2, 6}, {1, 3}}) || e != api.OK {
		t.Error(l, e)
	}
	if l, e = box.End(two(), api.BoxAlong, false); !reflect.DeepEqual(l, [][]int64{{4, 6}, {0, 3}}) || e != api.OK {
		t.Error(l, e)
	}
	if l, e = box.End(hollow(), api.BoxMeta, false); !reflect.DeepEqual(l, [][]int64{{10, 10}, {0, 4}}) || e != api.OK {
		t.Error(l, e)
	}
	for _, what := range notKinds {
		for _, up := range []bool{false, true} {
			if l, e := box.End(two(), what, up); len(l) != 0 || e != api.ErrRange {
				t.Error(what, l, e)
			}
		}
	}
	for _, h := range tried() {
		all := allTrue(h)
		for _, what := range kinds {
			lo, hi := spanOf(all, func(l [][]int64) *big.Rat { return valueOf(h, l, what) })
			for up, want := range map[bool]*big.Rat{false: lo, true: hi} {
				l, e := box.End(h, what, up)
				if f := box.CheckTrue(h, l); e != api.OK || f != api.OK || valueOf(h, l, what).Cmp(want) != 0 {
					t.Fatal(h, what, up, l, e, f, "not of", want)
				}
			}
		}
	}
}

func TestP2_7CheckBound(t *testing.T) {
	for i, x := range []struct {
		what  int
		bound api.Ratio
		up    bool
		e     api.Errno
	}{
		{api.BoxAlong, ratio(10, 3), true, api.OK},
		{api.BoxAlong, ratio(3, 1), true, api.ErrSum},
		{api.BoxAlong, ratio(30, 13), false, api.OK},
		{api.BoxAlong, ratio(3, 1), false, api.ErrSum},
		{api.BoxAbove, ratio(54, 11), true, api.OK},
		{api.BoxAbove, ratio(27, 7), false, api.OK},
		{api.BoxAbove, ratio(27, 7), true, api.ErrSum},
		{api.BoxMeta, ratio(0, 1), false, api.OK},
		{api.BoxMeta, ratio(0, 1), true, api.ErrSum},
		{api.BoxMeta, ratio(100000000000, 1), true, api.OK},
		{api.BoxMeta, ratio(100000000000, 1), false, api.ErrSum},
		{api.BoxMeta, ratio(1, 100000000), false, api.OK},
		{api.BoxMeta, ratio(1, 100000000), true, api.ErrSum},
		{api.BoxMeta, ratio(100000000000, 99999999), true, api.OK},
		{api.BoxMeta, ratio(100000000001, 1), true, api.ErrArg},
		{api.BoxMeta, ratio(1, 100000001), false, api.ErrArg},
		{api.BoxMeta, ratio(-1, 1), false, api.ErrArg},
		{api.BoxMeta, ratio(1, -1), false, api.ErrArg},
		{api.BoxMeta, ratio(-1, -1), false, api.ErrArg},
		{api.BoxMeta, ratio(1, 0), true, api.ErrArg},
		{api.BoxMeta, ratio(0, 0), false, api.ErrArg},
		{api.BoxMeta, ratio(0, 2), false, api.ErrArg},
		{api.BoxMeta, ratio(0, -1), false, api.ErrArg},
		{api.BoxMeta, ratio(20, 2), true, api.ErrArg},
		{api.BoxMeta, ratio(21, 35), false, api.ErrArg},
		{api.BoxMeta, ratio(7, 7), false, api.ErrArg},
		{api.BoxMeta, ratio(low, 1), false, api.ErrArg},
		{api.BoxMeta, ratio(high, 1), true, api.ErrArg},
		{api.BoxMeta, ratio(1, low), false, api.ErrArg},
		{api.BoxMeta, ratio(1, high), false, api.ErrArg},
		{api.BoxMeta, ratio(low, low), false, api.ErrArg},
		{3, ratio(10, 3), true, api.ErrRange},
		{-1, ratio(0, 0), true, api.ErrRange},
		{low, ratio(2, 4), false, api.ErrRange},
		{high, ratio(10, 3), false, api.ErrRange},
	} {
		if e := box.CheckBound(two(), x.what, x.bound, x.up); e != x.e {
			t.Error(i, e)
		}
	}
}

// What a bound does to the numbers of all true hulls, near to each of these numbers.
func TestP2_7CheckBoundOfSamples(t *testing.T) {
	for _, h := range tried() {
		all := allTrue(h)
		for _, what := range kinds {
			lo, hi := spanOf(all, func(l [][]int64) *big.Rat { return valueOf(h, l, what) })
			for i := 0; i < len(all); i += 1 + len(all)/9 {
				for _, b := range around(valueOf(h, all[i], what)) {
					checkBound(t, h, what, b, lo, hi)
				}
			}
		}
	}
}

// checkBound checks what CheckBound says of a bound that is valid, with the ends that the numbers have.
func checkBound(t *testing.T, h api.BoxHull, what int, b, lo, hi *big.Rat) {
	t.Helper()
	bound := ratio(b.Num().Int64(), b.Denom().Int64())
	above, below := api.OK, api.OK
	if hi.Cmp(b) > 0 {
		above = api.ErrSum
	}
	if lo.Cmp(b) < 0 {
		below = api.ErrSum
	}
	if e := box.CheckBound(h, what, bound, true); e != above {
		t.Fatal(h, what, bound, true, e)
	}
	if e := box.CheckBound(h, what, bound, false); e != below {
		t.Fatal(h, what, bound, false, e)
	}
}

// around are a number, and the ones next to it on both sides with a great Den; only those that may be bounds.
func around(n *big.Rat) []*big.Rat {
	wide := api.MaxBoxDen / n.Denom().Int64() * n.Denom().Int64()
	bit := big.NewRat(1, wide)
	var out []*big.Rat
	for _, b := range []*big.Rat{n, new(big.Rat).Sub(n, bit), new(big.Rat).Add(n, bit)} {
		if b.Sign() >= 0 && b.Num().Cmp(big.NewInt(api.MaxBoxNum)) <= 0 {
			out = append(out, b)
		}
	}
	return out
}

// At all limits of hulls and bounds nothing overflows.
func TestP2_7CheckBoundAtTheLimits(t *testing.T) {
	for _, h := range append(large(40), largest(), even(1000, 100, 10, 6, rg(500, 500)), even(1000, 1, 10, 6, rg(480, 500))) {
		for _, what := range kinds {
			s, _ := box.Span(h, what)
			lo, hi := ratOf(s.Lo), ratOf(s.Hi)
			bounds := append(around(lo), around(hi)...)
			for _, b := range append(bounds,
				big.NewRat(api.MaxBoxNum, 1), big.NewRat(api.MaxBoxNum, api.MaxBoxDen-1),
				big.NewRat(api.MaxBoxNum-1, api.MaxBoxDen), big.NewRat(1, api.MaxBoxDen), new(big.Rat)) {
				checkBound(t, h, what, b, lo, hi)
			}
		}
	}
}

// answers is what all functions return for a hull, a true hull, what is asked, and a bound.
func answers(h api.BoxHull, offsets [][]int64, what int, bound api.Ratio) []any {
	a, e1 := box.Volume(h, offsets)
	b, e2 := box.Value(h, offsets, what)
	c, e3 := box.Volumes(h)
	d, e4 := box.Span(h, what)
	f, e5 := box.End(h, what, false)
	g, e6 := box.End(h, what, true)
	return []any{box.CheckHull(h), box.CheckTrue(h, offsets), a, e1, b, e2, c, e3, d, e4, f, e5, g, e6,
		box.CheckBound(h, what, bound, false), box.CheckBound(h, what, bound, true)}
}

// P1: every function ends without a panic, whatever it is given.
func TestP1AnyArguments(t *testing.T) {
	ends := []int64{low, low + 1, -1, 0, 1, 20, 21, 100, 101, 500, 501, 1000, 1001, high - 1, high}
	for _, lo := range ends {
		for _, hi := range ends {
			for _, n := range ends {
				answers(with(rg(lo, hi)), [][]int64{{n, 6}, {lo, 3}}, int(n), ratio(hi, n))
				answers(even(n, lo, 2, 3, rg(1, 9)), [][]int64{{hi, lo, n}, {1, 2}}, int(hi), ratio(lo, hi))
				answers(two(), [][]int64{{lo, hi}, {n, n}}, 2, ratio(lo, hi))
			}
		}
	}
	answers(api.BoxHull{}, nil, 0, api.Ratio{})
	answers(largest(), make([][]int64, 10), 2, api.Ratio{})
}

// R3, R5 and R10: a call changes no argument, shares no memory, and is answered in the same way again.
func TestRulesOfMemory(t *testing.T) {
	for _, h := range append(samples(40), two(), largest()) {
		for _, what := range kinds {
			offsets, bound := lows(h), ratio(9, 2)
			h2, offsets2 := copyOf(h), rowsOf(offsets)
			first := answers(h, offsets, what, bound)
			if !reflect.DeepEqual(h, h2) || !reflect.DeepEqual(offsets, offsets2) {
				t.Fatal("an argument is changed", h2)
			}
			if again := answers(h, offsets, what, bound); !reflect.DeepEqual(first, again) {
				t.Fatal("another answer", h, first, again)
			}
			l, _ := box.End(h, what, true)
			kept := rowsOf(l)
			for _, station := range h.Offsets {
				clear(station)
			}
			if !reflect.DeepEqual(l, kept) {
				t.Fatal("a result shares memory with the hull", h2)
			}
			for i := range l {
				_ = append(l[i], -7)
				if !reflect.DeepEqual(l, kept) {
					t.Fatal("the lists of a result share memory", h2)
				}
			}
			for _, station := range l {
				clear(station)
			}
			if again := answers(h2, offsets2, what, bound); !reflect.DeepEqual(first, again) {
				t.Fatal("a result is kept", h2)
			}
		}
	}
}
