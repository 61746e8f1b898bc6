package drag_test

import (
	"math"
	"math/big"
	"math/rand"
	"slices"

	"tumblehome/api"
)

// What the chapter defines, written down once more as plainly as can be: with whole numbers of any size, and by trying all truths.

const (
	low  = math.MinInt64
	high = math.MaxInt64
)

func rg(lo, hi int64) api.Range { return api.Range{Lo: lo, Hi: hi} }

func list(l ...int64) []int64 { return l }

// lineA, lineB and one are the lines and the test of the chapter's examples.
func lineA() api.DragLine { return api.DragLine{Re: list(10, 20, 40), Cf: list(100, 60, 40)} }

func lineB() api.DragLine { return api.DragLine{Re: list(5, 50), Cf: list(90, 45)} }

func one() api.DragTest {
	return api.DragTest{Speed: 10, Long: 1000, Wet: 1000000, Alpha: 2,
		Force: rg(2, 3), Tank: rg(500, 1000), Sea: rg(2000, 2500), Form: rg(200, 200), Block: rg(0, 100), Rough: rg(0, 5)}
}

func linesOf(l ...api.DragLine) []api.DragLine { return l }

func copyOf(lines []api.DragLine) []api.DragLine {
	var out []api.DragLine
	for _, l := range lines {
		out = append(out, api.DragLine{Re: slices.Clone(l.Re), Cf: slices.Clone(l.Cf)})
	}
	return out
}

// divided is the product of some numbers, divided by that of others, rounded down.
func divided(product []int64, by ...int64) *big.Int {
	a, b := big.NewInt(1), big.NewInt(1)
	for _, n := range product {
		a.Mul(a, big.NewInt(n))
	}
	for _, n := range by {
		b.Mul(b, big.NewInt(n))
	}
	return a.Div(a, b) // what is divided by is above 0
}

func frictionOf(l api.DragLine, r int64) (int64, bool) {
	for i, a := range l.Re {
		if r == a {
			return l.Cf[i], true
		}
		if i+1 < len(l.Re) && a < r && r < l.Re[i+1] {
			b, c, d := l.Re[i+1], l.Cf[i], l.Cf[i+1]
			return c - divided(list(c-d, r-a), b-a).Int64(), true
		}
	}
	return 0, false
}

func modelOf(t api.DragTest, tank int64) int64 {
	return divided(list(t.Speed, t.Long), tank).Int64()
}

func shipOf(t api.DragTest, sea int64) int64 {
	return divided(list(t.Speed, t.Long, t.Alpha, t.Alpha, t.Alpha), sea).Int64()
}

// coefficientOf is the coefficient of the ship, or false if a Reynolds number is outside.
func coefficientOf(t api.DragTest, l api.DragLine, x api.DragTrue) (int64, bool) {
	fm, ok1 := frictionOf(l, modelOf(t, x.Tank))
	fs, ok2 := frictionOf(l, shipOf(t, x.Sea))
	m := divided(list(20000, 1000000, x.Force), t.Wet, t.Speed, t.Speed)
	if m.Cmp(big.NewInt(1000000000)) > 0 {
		m = big.NewInt(1000000000)
	}
	n := divided(list(m.Int64(), 1000-x.Block), 1000).Int64()
	n -= divided(list(1000+x.Form, fm), 1000).Int64()
	n += divided(list(1000+x.Form, fs), 1000).Int64()
	return n + x.Rough, ok1 && ok2
}

func isTrue(t api.DragTest, x api.DragTrue) bool {
	in := func(n int64, r api.Range) bool { return r.Lo <= n && n <= r.Hi }
	return in(x.Force, t.Force) && in(x.Tank, t.Tank) && in(x.Sea, t.Sea) && in(x.Form, t.Form) && in(x.Block, t.Block) && in(x.Rough, t.Rough)
}

// truths are all truths of a test.
func truths(t api.DragTest) []api.DragTrue {
	all := []api.DragTrue{{}}
	spread := func(r api.Range, set func(*api.DragTrue, int64)) {
		var more []api.DragTrue
		for _, x := range all {
			for n := r.Lo; n <= r.Hi; n++ {
				set(&x, n)
				more = append(more, x)
			}
		}
		all = more
	}
	spread(t.Force, func(x *api.DragTrue, n int64) { x.Force = n })
	spread(t.Tank, func(x *api.DragTrue, n int64) { x.Tank = n })
	spread(t.Sea, func(x *api.DragTrue, n int64) { x.Sea = n })
	spread(t.Form, func(x *api.DragTrue, n int64) { x.Form = n })
	spread(t.Block, func(x *api.DragTrue, n int64) { x.Block = n })
	spread(t.Rough, func(x *api.DragTrue, n int64) { x.Rough = n })
	return all
}

// spanOf is the least and the greatest coefficient of all truths and lines, or false if the test cannot be reckoned.
func spanOf(t api.DragTest, lines []api.DragLine) (api.Range, bool) {
	all := rg(high, low)
	for _, x := range truths(t) {
		for _, l := range lines {
			n, ok := coefficientOf(t, l, x)
			if !ok {
				return api.Range{}, false
			}
			all = rg(min(all.Lo, n), max(all.Hi, n))
		}
	}
	return all, true
}

// anyRange is a range within bounds, of at most so many numbers, and often at one of its bounds.
func anyRange(r *rand.Rand, lo, hi, wide int64) api.Range {
	n := r.Int63n(min(wide, hi-lo+1))
	a := lo + r.Int63n(hi-lo-n+1)
	switch r.Intn(4) {
	case 0:
		a = lo
	case 1:
		a = hi - n
	}
	return rg(a, a+n)
}

// anyTest is a test with so many numbers in its ranges at most (those of Form and of the others).
func anyTest(r *rand.Rand, form, wide int64) api.DragTest {
	t := api.DragTest{Speed: 1 + r.Int63n(300), Long: 1 + r.Int63n(10000), Wet: 1 + r.Int63n(1000000), Alpha: 1 + r.Int63n(4)}
	if r.Intn(3) == 0 {
		t.Speed, t.Wet = 10000-r.Int63n(9), 1000000-r.Int63n(9)
	}
	t.Force, t.Rough = anyRange(r, 0, 50, wide), anyRange(r, 0, 2000, wide)
	t.Tank, t.Sea = anyRange(r, 500, 3000, wide), anyRange(r, 500, 3000, wide)
	t.Form, t.Block = anyRange(r, 0, 1000, form), anyRange(r, 0, 200, wide)
	if r.Intn(4) == 0 {
		t.Force = anyRange(r, 0, 100000000, wide)
	}
	return t
}

// anyLine is a line that has all numbers from lo to hi; its frictions are often few, so that the rounding decides.
func anyLine(r *rand.Rand, lo, hi int64) api.DragLine {
	lo, hi = max(1, lo), max(2, hi, lo+1)
	re := map[int64]bool{max(1, lo-r.Int63n(3)): true, hi + r.Int63n(3): true}
	for range r.Intn(11) {
		re[lo+r.Int63n(hi-lo+1)] = true
	}
	most := []int64{3, 20, 400, 100000}[r.Intn(4)]
	var l api.DragLine
	for n := range re {
		l.Re = append(l.Re, n)
		l.Cf = append(l.Cf, r.Int63n(most+1))
	}
	slices.Sort(l.Re)
	slices.SortFunc(l.Cf, func(a, b int64) int { return int(b - a) })
	return l
}

type sample struct {
	t     api.DragTest
	lines []api.DragLine
}

// samples are tests, each with lines by which it can mostly be reckoned.
func samples(n int, seed, form, wide int64) []sample {
	r := rand.New(rand.NewSource(seed))
	var out []sample
	for len(out) < n {
		t := anyTest(r, form, wide)
		if modelOf(t, t.Tank.Hi) == 0 || shipOf(t, t.Sea.Hi) == 0 {
			continue // a number of 0 is outside of all lines
		}
		lo, hi := modelOf(t, t.Tank.Hi), modelOf(t, t.Tank.Lo)
		lo, hi = min(lo, shipOf(t, t.Sea.Hi)), max(hi, shipOf(t, t.Sea.Lo))
		s := sample{t: t}
		for range 1 + r.Intn(api.MaxDragLines) {
			less := r.Int63n(40) / 39 // a line that may be too short
			s.lines = append(s.lines, anyLine(r, lo+less, hi-less))
		}
		out = append(out, s)
	}
	return out
}

// anyTrue is some truth of a test.
func anyTrue(r *rand.Rand, t api.DragTest) api.DragTrue {
	of := func(x api.Range) int64 { return x.Lo + r.Int63n(x.Hi-x.Lo+1) }
	return api.DragTrue{Force: of(t.Force), Tank: of(t.Tank), Sea: of(t.Sea), Form: of(t.Form), Block: of(t.Block), Rough: of(t.Rough)}
}
