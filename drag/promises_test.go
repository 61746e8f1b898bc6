package drag_test

import (
	"math/rand"
	"reflect"
	"slices"
	"testing"

	"tumblehome/api"
	"tumblehome/drag"
)

type invalidLine struct {
	l api.DragLine
	e api.Errno
}

// rising are n numbers from 1 on, each one greater than the one before.
func rising(n int) []int64 {
	var out []int64
	for i := range n {
		out = append(out, int64(i+1))
	}
	return out
}

func lineOf(re, cf []int64) api.DragLine { return api.DragLine{Re: re, Cf: cf} }

// invalidLines are lines with the error of each.
func invalidLines() []invalidLine {
	return []invalidLine{
		{lineOf(nil, nil), api.ErrMany},
		{lineOf(list(), list()), api.ErrMany},
		{lineOf(list(10), list(100)), api.ErrMany},
		{lineOf(list(10), list(100, 60)), api.ErrMany},
		{lineOf(list(0), nil), api.ErrMany},
		{lineOf(rising(13), make([]int64, 13)), api.ErrMany},
		{lineOf(rising(13), nil), api.ErrMany},
		{lineOf(make([]int64, 5000), list(1, 2)), api.ErrMany},
		{lineOf(list(10, 20), nil), api.ErrEqual},
		{lineOf(list(10, 20), list(100)), api.ErrEqual},
		{lineOf(list(10, 20), list(100, 60, 40)), api.ErrEqual},
		{lineOf(list(20, 10), list(100)), api.ErrEqual},
		{lineOf(list(0, 0), list(-1, 5, 9)), api.ErrEqual},
		{lineOf(rising(12), make([]int64, 13)), api.ErrEqual},
		{lineOf(list(20, 10), list(100, 60)), api.ErrArg},
		{lineOf(list(10, 10), list(100, 60)), api.ErrArg},
		{lineOf(list(10, 20, 20), list(100, 60, 60)), api.ErrArg},
		{lineOf(list(10, 20, 15), list(100, 60, 60)), api.ErrArg},
		{lineOf(list(0, 20), list(100, 60)), api.ErrArg},
		{lineOf(list(-1, 20), list(100, 60)), api.ErrArg},
		{lineOf(list(low, 20), list(100, 60)), api.ErrArg},
		{lineOf(list(10, 1000000001), list(100, 60)), api.ErrArg},
		{lineOf(list(10, high), list(100, 60)), api.ErrArg},
		{lineOf(list(10, 20), list(60, 61)), api.ErrArg},
		{lineOf(list(10, 20, 30), list(60, 50, 51)), api.ErrArg},
		{lineOf(list(10, 20), list(100001, 60)), api.ErrArg},
		{lineOf(list(10, 20), list(high, 60)), api.ErrArg},
		{lineOf(list(10, 20), list(60, -1)), api.ErrArg},
		{lineOf(list(10, 20), list(60, low)), api.ErrArg},
		{lineOf(list(10, 20), list(-1, -1)), api.ErrArg},
	}
}

func TestP4_1CheckLine(t *testing.T) {
	for i, x := range invalidLines() {
		if e := drag.CheckLine(x.l); e != x.e {
			t.Error(i, e)
		}
		if n, e := drag.Friction(x.l, 15); n != 0 || e != x.e {
			t.Error("Friction", i, n, e)
		}
	}
	for i, l := range []api.DragLine{
		lineA(), lineB(),
		lineOf(list(1, 2), list(0, 0)),
		lineOf(list(1, 1000000000), list(100000, 0)),
		lineOf(list(1, 1000000000), list(100000, 100000)),
		lineOf(list(999999999, 1000000000), list(5, 5)),
		lineOf(rising(12), make([]int64, 12)),
	} {
		if e := drag.CheckLine(l); e != api.OK {
			t.Error(i, e)
		}
	}
}

func TestP4_2Friction(t *testing.T) {
	steep := lineOf(list(1, 1000000000), list(100000, 0))
	for i, x := range []struct {
		l    api.DragLine
		re   int64
		want int64
		e    api.Errno
	}{
		{lineA(), 10, 100, api.OK},
		{lineA(), 13, 88, api.OK},
		{lineA(), 19, 64, api.OK},
		{lineA(), 20, 60, api.OK},
		{lineA(), 21, 59, api.OK},
		{lineA(), 25, 55, api.OK},
		{lineA(), 39, 41, api.OK},
		{lineA(), 40, 40, api.OK},
		{lineA(), 9, 0, api.ErrChart},
		{lineA(), 41, 0, api.ErrChart},
		{lineA(), 0, 0, api.ErrChart},
		{lineA(), -13, 0, api.ErrChart},
		{lineA(), low, 0, api.ErrChart},
		{lineA(), high, 0, api.ErrChart},
		{lineOf(list(10, 13), list(100, 99)), 12, 100, api.OK}, // what is taken off is rounded down
		{lineOf(list(10, 13), list(100, 98)), 12, 99, api.OK},
		{lineOf(list(10, 13), list(100, 100)), 12, 100, api.OK},
		{steep, 1, 100000, api.OK},
		{steep, 2, 100000, api.OK},
		{steep, 10000, 100000, api.OK},
		{steep, 10001, 99999, api.OK},
		{steep, 999999999, 1, api.OK},
		{steep, 1000000000, 0, api.OK},
		{steep, 1000000001, 0, api.ErrChart},
		{lineOf(rising(12), list(12, 11, 10, 9, 8, 7, 6, 5, 4, 3, 2, 1)), 12, 1, api.OK},
		{lineOf(rising(12), list(12, 11, 10, 9, 8, 7, 6, 5, 4, 3, 2, 1)), 11, 2, api.OK},
	} {
		if n, e := drag.Friction(x.l, x.re); n != x.want || e != x.e {
			t.Error(i, n, e)
		}
	}
	r := rand.New(rand.NewSource(1))
	for range 300 {
		l := anyLine(r, 1+r.Int63n(50), 20+r.Int63n(90))
		for re := int64(0); re < 120; re++ {
			want, ok := frictionOf(l, re)
			n, e := drag.Friction(l, re)
			if n != want || ok != (e == api.OK) || !ok && e != api.ErrChart {
				t.Fatal(l, re, n, e, want)
			}
		}
	}
}

// change is a test that is changed.
func change(by func(*api.DragTest)) api.DragTest {
	t := one()
	by(&t)
	return t
}

// numbersOf are pointers to the numbers of a test, rangesOf to its ranges.
func numbersOf(t *api.DragTest) []*int64 { return []*int64{&t.Speed, &t.Long, &t.Wet, &t.Alpha} }

func rangesOf(t *api.DragTest) []*api.Range {
	return []*api.Range{&t.Force, &t.Tank, &t.Sea, &t.Form, &t.Block, &t.Rough}
}

// mostOf are the greatest numbers in the order of numbersOf, and bounds those of rangesOf.
func mostOf() []int64 { return list(10000, 10000, 1000000, 10) }

func bounds() []api.Range {
	return []api.Range{rg(0, 100000000), rg(500, 3000), rg(500, 3000), rg(0, 1000), rg(0, 200), rg(0, 2000)}
}

// invalidTests are tests that are not valid.
func invalidTests() []api.DragTest {
	out := []api.DragTest{{}}
	for i, most := range mostOf() {
		for _, n := range []int64{0, -1, most + 1, low, high} {
			out = append(out, change(func(t *api.DragTest) { *numbersOf(t)[i] = n }))
		}
	}
	for i, b := range bounds() {
		for _, r := range []api.Range{
			rg(b.Lo-1, b.Hi), rg(b.Lo, b.Hi+1), rg(b.Lo-1, b.Lo-1), rg(b.Hi+1, b.Hi+1), rg(b.Lo+1, b.Lo), rg(b.Hi, b.Lo),
			rg(low, b.Hi), rg(b.Lo, high), rg(low, high), rg(high, low), rg(low, low), rg(high, high), rg(b.Lo, low), rg(high, b.Hi),
		} {
			out = append(out, change(func(t *api.DragTest) { *rangesOf(t)[i] = r }))
		}
	}
	return out
}

func TestP4_3CheckTest(t *testing.T) {
	for i, x := range invalidTests() {
		if e := drag.CheckTest(x); e != api.ErrArg {
			t.Error(i, x, e)
		}
	}
	valid := []api.DragTest{one()}
	for i, most := range mostOf() {
		for _, n := range []int64{1, most} {
			valid = append(valid, change(func(t *api.DragTest) { *numbersOf(t)[i] = n }))
		}
	}
	for i, b := range bounds() {
		for _, r := range []api.Range{b, rg(b.Lo, b.Lo), rg(b.Hi, b.Hi), rg(b.Lo, b.Lo+1), rg(b.Hi-1, b.Hi)} {
			valid = append(valid, change(func(t *api.DragTest) { *rangesOf(t)[i] = r }))
		}
	}
	for i, x := range valid {
		if e := drag.CheckTest(x); e != api.OK {
			t.Error(i, x, e)
		}
	}
}

// The error of a test comes before all others, then that of lines.
func TestOrderOfErrors(t *testing.T) {
	short := lineOf(list(1), nil)
	for i, x := range invalidTests() {
		if a, b, e := drag.Reynolds(x); a != rg(0, 0) || b != rg(0, 0) || e != api.ErrArg {
			t.Error(i, a, b, e)
		}
		if n, e := drag.Ship(x, short, api.DragTrue{}); n != 0 || e != api.ErrArg {
			t.Error(i, n, e)
		}
		for _, lines := range [][]api.DragLine{nil, {short}, {lineA()}, make([]api.DragLine, 5)} {
			if s, e := drag.Span(x, lines); s != rg(0, 0) || e != api.ErrArg {
				t.Error(i, s, e)
			}
			if n, truth, e := drag.End(x, lines, true); n != 0 || truth != (api.DragTrue{}) || e != api.ErrArg {
				t.Error(i, n, truth, e)
			}
			if a, b, e := drag.Holds([]api.DragTest{one(), x}, lines, nil); a != 0 || b != 0 || e != api.ErrArg {
				t.Error(i, a, b, e)
			}
		}
	}
	for i, x := range invalidLines() {
		if n, e := drag.Ship(one(), x.l, api.DragTrue{}); n != 0 || e != x.e {
			t.Error(i, n, e)
		}
		far := lineOf(list(1000, 2000), list(1, 1)) // by which the test cannot be reckoned
		checkLinesError(t, linesOf(x.l), x.e)
		checkLinesError(t, linesOf(far, lineA(), x.l), x.e)
		checkLinesError(t, linesOf(lineA(), far, lineA(), x.l), x.e)
		checkLinesError(t, linesOf(x.l, x.l, x.l, x.l, x.l), api.ErrMany)
		for _, y := range invalidLines() {
			checkLinesError(t, linesOf(x.l, y.l), x.e)
			checkLinesError(t, linesOf(lineB(), x.l, lineA(), y.l), x.e)
		}
	}
	checkLinesError(t, nil, api.ErrMany)
	checkLinesError(t, linesOf(), api.ErrMany)
	checkLinesError(t, linesOf(lineA(), lineA(), lineA(), lineA(), lineA()), api.ErrMany)
	checkLinesError(t, make([]api.DragLine, 5000), api.ErrMany)
}

// checkLinesError checks the error of all functions with lines.
func checkLinesError(t *testing.T, lines []api.DragLine, want api.Errno) {
	t.Helper()
	for _, x := range []api.DragTest{one(), change(func(t *api.DragTest) { t.Speed = 1 })} {
		if s, e := drag.Span(x, lines); s != rg(0, 0) || e != want {
			t.Error(lines, s, e)
		}
		if n, truth, e := drag.End(x, lines, false); n != 0 || truth != (api.DragTrue{}) || e != want {
			t.Error(lines, n, truth, e)
		}
		if a, b, e := drag.Holds([]api.DragTest{x, x}, lines, nil); a != 0 || b != 0 || e != want {
			t.Error(lines, a, b, e)
		}
	}
}

func TestP4_4Reynolds(t *testing.T) {
	for i, x := range []struct {
		t           api.DragTest
		model, ship api.Range
	}{
		{one(), rg(10, 20), rg(32, 40)},
		{change(func(t *api.DragTest) { t.Alpha = 1 }), rg(10, 20), rg(4, 5)},
		{change(func(t *api.DragTest) { t.Alpha = 3 }), rg(10, 20), rg(108, 135)},
		{change(func(t *api.DragTest) { t.Speed, t.Long = 1, 1 }), rg(0, 0), rg(0, 0)},
		{change(func(t *api.DragTest) { t.Tank, t.Sea = rg(700, 2999), rg(501, 2999) }), rg(3, 14), rg(26, 159)},
		{api.DragTest{Speed: 10000, Long: 10000, Wet: 1, Alpha: 10, Tank: rg(500, 3000), Sea: rg(500, 3000)}, rg(33333, 200000), rg(33333333, 200000000)},
	} {
		if a, b, e := drag.Reynolds(x.t); a != x.model || b != x.ship || e != api.OK {
			t.Error(i, a, b, e)
		}
	}
	for _, s := range samples(300, 2, 3, 20) {
		model, ship := rg(high, low), rg(high, low)
		for n := s.t.Tank.Lo; n <= s.t.Tank.Hi; n++ {
			re := modelOf(s.t, n)
			model = rg(min(model.Lo, re), max(model.Hi, re))
		}
		for n := s.t.Sea.Lo; n <= s.t.Sea.Hi; n++ {
			re := shipOf(s.t, n)
			ship = rg(min(ship.Lo, re), max(ship.Hi, re))
		}
		if a, b, e := drag.Reynolds(s.t); a != model || b != ship || e != api.OK {
			t.Fatal(s.t, a, b, e, model, ship)
		}
	}
}

func TestP4_5Ship(t *testing.T) {
	x := api.DragTrue{Force: 2, Tank: 1000, Sea: 2000, Form: 200, Block: 100, Rough: 0}
	but := func(by func(*api.DragTrue)) api.DragTrue {
		y := x
		by(&y)
		return y
	}
	// a model and a ship with the Reynolds numbers 10 and 10, and a force that is beyond what is measured
	strong := api.DragTest{Speed: 1, Long: 10000, Wet: 1, Alpha: 1, Force: rg(0, 100000000), Tank: rg(1000, 1000), Sea: rg(1000, 1000), Form: rg(0, 0), Block: rg(0, 200), Rough: rg(0, 2000)}
	for i, y := range []struct {
		t    api.DragTest
		l    api.DragLine
		x    api.DragTrue
		want int64
		e    api.Errno
	}{
		{one(), lineA(), x, 288, api.OK},
		{one(), lineA(), but(func(x *api.DragTrue) { x.Rough = 5 }), 293, api.OK},
		{one(), lineA(), but(func(x *api.DragTrue) { x.Force = 3 }), 468, api.OK},
		{one(), lineA(), but(func(x *api.DragTrue) { x.Block = 0 }), 328, api.OK},
		{one(), lineA(), but(func(x *api.DragTrue) { x.Tank = 500 }), 336, api.OK},
		{one(), lineA(), but(func(x *api.DragTrue) { x.Sea = 2500 }), 297, api.OK},
		{one(), lineA(), api.DragTrue{}, 0, api.ErrRange},
		{strong, lineA(), api.DragTrue{Force: 100000000, Tank: 1000, Sea: 1000}, 1000000000, api.OK},
		{strong, lineA(), api.DragTrue{Force: 1, Tank: 1000, Sea: 1000}, 1000000000, api.OK},
		{strong, lineA(), api.DragTrue{Force: 0, Tank: 1000, Sea: 1000, Rough: 7}, 7, api.OK},
		{strong, lineA(), api.DragTrue{Force: 100000000, Tank: 1000, Sea: 1000, Block: 200}, 800000000, api.OK}, // it is corrected behind the most that is measured
		{strong, lineOf(list(11, 20), list(1, 1)), api.DragTrue{Tank: 1000, Sea: 1000}, 0, api.ErrChart},
		{one(), lineOf(list(11, 40), list(60, 50)), x, 0, api.ErrChart},
		{one(), lineOf(list(10, 39), list(60, 50)), x, 0, api.ErrChart},
		{one(), lineOf(list(11, 39), list(60, 50)), but(func(x *api.DragTrue) { x.Tank, x.Sea = 900, 2051 }), 348, api.OK}, // only what is truly so has to be inside
		{one(), lineOf(list(11, 39), list(60, 50)), api.DragTrue{}, 0, api.ErrRange},
	} {
		if n, e := drag.Ship(y.t, y.l, y.x); n != y.want || e != y.e {
			t.Error(i, n, e)
		}
	}
	// below 0
	slow := change(func(t *api.DragTest) { t.Force = rg(0, 0) })
	if n, e := drag.Ship(slow, lineA(), api.DragTrue{Tank: 1000, Sea: 2000, Form: 200}); n != -72 || e != api.OK {
		t.Error(n, e)
	}
}

// Each number of a truth has to be in its range, also if a Reynolds number is outside.
func TestP4_5NoTruth(t *testing.T) {
	base := api.DragTrue{Force: 2, Tank: 700, Sea: 2200, Form: 200, Block: 50, Rough: 3}
	fields := func(x *api.DragTrue) []*int64 {
		return []*int64{&x.Force, &x.Tank, &x.Sea, &x.Form, &x.Block, &x.Rough}
	}
	test := one()
	for i, r := range rangesOf(&test) {
		for _, n := range []int64{r.Lo - 1, r.Hi + 1, low, high, -r.Lo - 1} {
			x := base
			*fields(&x)[i] = n
			for _, l := range linesOf(lineA(), lineOf(list(1000, 1001), list(1, 1))) {
				if n, e := drag.Ship(test, l, x); n != 0 || e != api.ErrRange {
					t.Error(x, l, n, e)
				}
			}
		}
		for _, n := range []int64{r.Lo, r.Hi} {
			x := base
			*fields(&x)[i] = n
			want, _ := coefficientOf(test, lineA(), x)
			if n, e := drag.Ship(test, lineA(), x); n != want || e != api.OK {
				t.Error(x, n, e)
			}
			if n, e := drag.Ship(test, lineOf(list(1000, 1001), list(1, 1)), x); n != 0 || e != api.ErrChart {
				t.Error(x, n, e)
			}
		}
	}
}

func TestP4_5ShipOfSamples(t *testing.T) {
	r := rand.New(rand.NewSource(4))
	for _, s := range samples(2000, 3, 1001, 2000) {
		for _, l := range s.lines {
			x := anyTrue(r, s.t)
			want, ok := coefficientOf(s.t, l, x)
			n, e := drag.Ship(s.t, l, x)
			if ok && (n != want || e != api.OK) || !ok && (n != 0 || e != api.ErrChart) {
				t.Fatal(s.t, l, x, n, e, want, ok)
			}
		}
	}
}

func TestP4_6Span(t *testing.T) {
	for i, x := range []struct {
		t     api.DragTest
		lines []api.DragLine
		want  api.Range
		e     api.Errno
	}{
		{one(), linesOf(lineA()), rg(288, 590), api.OK},
		{one(), linesOf(lineB()), rg(324, 590), api.OK},
		{one(), linesOf(lineA(), lineB()), rg(288, 590), api.OK},
		{one(), linesOf(lineB(), lineA()), rg(288, 590), api.OK},
		{one(), linesOf(lineB(), lineB(), lineB(), lineB()), rg(324, 590), api.OK},
		{one(), linesOf(lineOf(list(10, 40), list(5, 5))), rg(360, 605), api.OK},
		{one(), linesOf(lineOf(list(11, 40), list(5, 5))), rg(0, 0), api.ErrChart},
		{one(), linesOf(lineOf(list(10, 39), list(5, 5))), rg(0, 0), api.ErrChart},
		{one(), linesOf(lineOf(list(20, 32), list(5, 5))), rg(0, 0), api.ErrChart},
		{one(), linesOf(lineA(), lineB(), lineOf(list(10, 39), list(5, 5))), rg(0, 0), api.ErrChart},
		{one(), linesOf(lineOf(list(11, 40), list(5, 5)), lineA()), rg(0, 0), api.ErrChart},
		{change(func(t *api.DragTest) { t.Speed, t.Long = 1, 499 }), linesOf(lineOf(list(1, 1000000000), list(5, 5))), rg(0, 0), api.ErrChart},
		// a ship with less than its model: that the model's number is inside is not enough
		{change(func(t *api.DragTest) { t.Alpha = 1 }), linesOf(lineB()), rg(0, 0), api.ErrChart},
		{change(func(t *api.DragTest) { t.Alpha, t.Sea = 1, rg(2000, 2000) }), linesOf(lineB()), rg(366, 623), api.OK},
	} {
		if s, e := drag.Span(x.t, x.lines); s != x.want || e != x.e {
			t.Error(i, s, e)
		}
	}
}

// Between the ends of Form the rounding of both frictions can make the coefficient greater, and less.
func TestP4_6FormBetween(t *testing.T) {
	x := api.DragTest{Speed: 10, Long: 1000, Wet: 1000000, Alpha: 2, Tank: rg(1000, 1000), Sea: rg(2000, 2000)}
	l := lineOf(list(10, 40), list(3, 2))
	by := func(form int64) int64 {
		n, _ := drag.Ship(x, l, api.DragTrue{Tank: 1000, Sea: 2000, Form: form})
		return n
	}
	for i, y := range []struct{ form, ends, want api.Range }{
		{rg(0, 600), rg(-1, -1), rg(-2, -1)},
		{rg(340, 700), rg(-2, -2), rg(-2, -1)},
		{rg(0, 1000), rg(-1, -2), rg(-2, -1)},
		{rg(340, 340), rg(-2, -2), rg(-2, -2)},
	} {
		x.Form = y.form
		if ends := rg(by(y.form.Lo), by(y.form.Hi)); ends != y.ends {
			t.Error(i, ends)
		}
		if s, e := drag.Span(x, linesOf(l)); s != y.want || e != api.OK {
			t.Error(i, s, e)
		}
		checkEnds(t, sample{x, linesOf(l)})
	}
}

func TestP4_6SpanOfSamples(t *testing.T) {
	for _, s := range slices.Concat(samples(400, 5, 25, 3), samples(150, 6, 300, 2), samples(60, 7, 4, 5)) {
		want, ok := spanOf(s.t, s.lines)
		got, e := drag.Span(s.t, s.lines)
		if got != want || ok != (e == api.OK) || !ok && e != api.ErrChart {
			t.Fatal(s, got, e, want)
		}
		checkEnds(t, s)
	}
}

// checkEnds checks that End has what Span has.
func checkEnds(t *testing.T, s sample) {
	t.Helper()
	span, want := drag.Span(s.t, s.lines)
	for _, up := range []bool{false, true} {
		line, x, e := drag.End(s.t, s.lines, up)
		if e != want || e != api.OK && (line != 0 || x != api.DragTrue{}) {
			t.Fatal(s, up, line, x, e)
		}
		if e != api.OK {
			continue
		}
		end := span.Lo
		if up {
			end = span.Hi
		}
		if line < 0 || line >= len(s.lines) || !isTrue(s.t, x) {
			t.Fatal(s, up, line, x)
		}
		if n, ok := coefficientOf(s.t, s.lines[line], x); !ok || n != end {
			t.Fatal(s, up, line, x, n, end)
		}
		if n, e := drag.Ship(s.t, s.lines[line], x); n != end || e != api.OK {
			t.Fatal(s, up, line, x, n, e)
		}
	}
}

func TestP4_7End(t *testing.T) {
	for i, lines := range [][]api.DragLine{{lineA()}, {lineB()}, {lineA(), lineB()}, {lineB(), lineA()}, {lineB(), lineB(), lineB(), lineA()}} {
		checkEnds(t, sample{one(), lines})
		if line, _, e := drag.End(one(), lines, false); i > 1 && lines[line].Re[0] != 10 || e != api.OK {
			t.Error(i, line, e)
		}
	}
	for i, lines := range [][]api.DragLine{{lineOf(list(11, 40), list(5, 5))}, {lineA(), lineOf(list(10, 39), list(5, 5))}} {
		for _, up := range []bool{false, true} {
			if n, x, e := drag.End(one(), lines, up); n != 0 || x != (api.DragTrue{}) || e != api.ErrChart {
				t.Error(i, n, x, e)
			}
		}
	}
	for _, s := range samples(1000, 8, 1001, 2500) {
		checkEnds(t, s)
	}
}

func testsOf(t ...api.DragTest) []api.DragTest { return t }

func TestP4_8Holds(t *testing.T) {
	a := linesOf(lineA())
	far := change(func(t *api.DragTest) { t.Speed = 5 })
	wrong := change(func(t *api.DragTest) { t.Speed = 0 })
	twenty := slices.Repeat(testsOf(one()), 20)
	for i, x := range []struct {
		tests         []api.DragTest
		lines         []api.DragLine
		limits        []int64
		surely, maybe int
		e             api.Errno
	}{
		{testsOf(one(), one()), a, list(590, 589), 1, 2, api.OK},
		{testsOf(one(), one()), a, list(589, 590), 0, 2, api.OK},
		{testsOf(one(), one()), a, list(590, 590), 2, 2, api.OK},
		{testsOf(one(), one()), a, list(590, 287), 1, 1, api.OK},
		{testsOf(one(), one()), a, list(287, 590), 0, 0, api.OK},
		{testsOf(one(), one()), a, list(288, 288), 0, 2, api.OK},
		{testsOf(one(), one(), one()), a, list(600, 288, 600), 1, 3, api.OK},
		{testsOf(one(), one(), one()), a, list(600, 287, 600), 1, 1, api.OK},
		{testsOf(one(), one()), linesOf(lineB()), list(323, 324), 0, 0, api.OK},
		{testsOf(one(), one()), linesOf(lineB(), lineA()), list(323, 324), 0, 2, api.OK},
		{testsOf(one(), one()), a, list(high, low), 1, 1, api.OK},
		{testsOf(one(), one()), a, list(high, high), 2, 2, api.OK},
		{nil, a, nil, 0, 0, api.OK},
		{testsOf(), a, list(), 0, 0, api.OK},
		{twenty, a, slices.Repeat(list(590), 20), 20, 20, api.OK},
		{twenty, a, slices.Concat(slices.Repeat(list(590), 17), list(400, 590, 590)), 17, 20, api.OK},
		{slices.Repeat(testsOf(one()), 21), a, slices.Repeat(list(590), 21), 0, 0, api.ErrMany},
		{make([]api.DragTest, 21), nil, nil, 0, 0, api.ErrMany},
		{make([]api.DragTest, 5000), nil, nil, 0, 0, api.ErrMany},
		{testsOf(one(), wrong), nil, nil, 0, 0, api.ErrArg},
		{testsOf(far, wrong), a, list(590, 590), 0, 0, api.ErrArg},
		{testsOf(one()), nil, nil, 0, 0, api.ErrMany},
		{nil, nil, nil, 0, 0, api.ErrMany},
		{nil, linesOf(lineA(), lineOf(nil, nil)), list(1), 0, 0, api.ErrMany},
		{nil, linesOf(lineOf(list(1, 2), nil)), list(1), 0, 0, api.ErrEqual},
		{testsOf(far), linesOf(lineOf(list(2, 1), list(1, 1))), nil, 0, 0, api.ErrArg},
		{nil, a, list(1), 0, 0, api.ErrEqual},
		{testsOf(one()), a, nil, 0, 0, api.ErrEqual},
		{testsOf(one(), one()), a, list(590), 0, 0, api.ErrEqual},
		{testsOf(one(), one()), a, list(590, 590, 590), 0, 0, api.ErrEqual},
		{testsOf(far, one()), a, list(590), 0, 0, api.ErrEqual},
		{testsOf(far, one()), a, list(590, 590), 0, 0, api.ErrChart},
		{testsOf(one(), one(), far), a, list(0, 0, 0), 0, 0, api.ErrChart}, // also behind one that does not hold its limit
		{testsOf(one()), linesOf(lineA(), lineOf(list(10, 39), list(1, 1))), list(590), 0, 0, api.ErrChart},
	} {
		if a, b, e := drag.Holds(x.tests, x.lines, x.limits); a != x.surely || b != x.maybe || e != x.e {
			t.Error(i, a, b, e)
		}
	}
}

func TestP4_8HoldsOfSamples(t *testing.T) {
	r := rand.New(rand.NewSource(12))
	for i, s := range samples(300, 11, 6, 3) {
		lines := linesOf(lineOf(list(1, 50, 1000000000), list(300, 200, 7)))
		if i%2 == 0 {
			lines = append(lines, lineOf(list(1, 30, 1000000000), list(310, 190, 100)))
		}
		var tests []api.DragTest
		var limits []int64
		surely, maybe := 0, 0
		for k := range r.Intn(6) {
			t := s.t
			t.Rough = rg(int64(k), int64(k)+r.Int63n(3))
			span, _ := spanOf(t, lines)
			limit := span.Lo - 1 + r.Int63n(span.Hi-span.Lo+6)
			if r.Intn(2) == 0 {
				limit = span.Hi + r.Int63n(2)
			}
			if limit >= span.Hi && surely == k {
				surely++
			}
			if limit >= span.Lo && maybe == k {
				maybe++
			}
			tests, limits = append(tests, t), append(limits, limit)
		}
		if a, b, e := drag.Holds(tests, lines, limits); a != surely || b != maybe || e != api.OK {
			t.Fatal(tests, lines, limits, a, b, e, surely, maybe)
		}
	}
}

// answers is what all functions return.
func answers(t api.DragTest, l api.DragLine, x api.DragTrue, re int64, lines []api.DragLine, limits []int64) []any {
	a, e1 := drag.Friction(l, re)
	b, c, e2 := drag.Reynolds(t)
	d, e3 := drag.Ship(t, l, x)
	f, e4 := drag.Span(t, lines)
	g, h, e5 := drag.End(t, lines, true)
	i, k, e6 := drag.End(t, lines, false)
	m, n, e7 := drag.Holds(slices.Repeat(testsOf(t), len(limits)), lines, limits)
	return []any{drag.CheckLine(l), drag.CheckTest(t), a, e1, b, c, e2, d, e3, f, e4, g, h, e5, i, k, e6, m, n, e7}
}

// P1: every function ends without a panic, whatever it is given.
func TestP1AnyArguments(t *testing.T) {
	ends := []int64{low, low + 1, -1, 0, 1, 10, 200, 500, 1000, 2000, 3000, 100000, api.MaxDragRe, api.MaxNumber, high - 1, high}
	for _, a := range ends {
		for _, b := range ends {
			l := lineOf(list(a, b), list(b, a))
			x := api.DragTrue{Force: a, Tank: b, Sea: a, Form: b, Block: a, Rough: b}
			for i := range rangesOf(&api.DragTest{}) {
				y := change(func(t *api.DragTest) { *rangesOf(t)[i] = rg(a, b) })
				answers(y, l, x, a, linesOf(l, lineA()), list(a, b))
				answers(y, lineA(), x, b, linesOf(lineB()), list(a))
			}
			for i := range numbersOf(&api.DragTest{}) {
				y := change(func(t *api.DragTest) { *numbersOf(t)[i] = a })
				answers(y, lineOf(list(1, b), list(5, a)), x, a, linesOf(lineOf(list(1, b), list(5, a))), nil)
			}
		}
	}
	answers(api.DragTest{}, api.DragLine{}, api.DragTrue{}, 0, nil, nil)
}

// Nothing overflows at the limits.
func TestAtTheLimits(t *testing.T) {
	widest := api.DragTest{Speed: 10000, Long: 10000, Wet: 1000000, Alpha: 10,
		Force: bounds()[0], Tank: bounds()[1], Sea: bounds()[2], Form: bounds()[3], Block: bounds()[4], Rough: bounds()[5]}
	slow := widest
	slow.Speed, slow.Wet = 1, 1
	line := lineOf(list(1, 1000000000), list(100000, 0))
	r := rand.New(rand.NewSource(13))
	for _, x := range testsOf(widest, slow) {
		lines := slices.Repeat(linesOf(line, line, lineOf(list(1, 40000, 1000000000), list(100000, 3, 2))), 2)[:4]
		checkEnds(t, sample{x, lines})
		span, e := drag.Span(x, lines)
		if e != api.OK {
			t.Fatal(x, span, e)
		}
		for range 2000 {
			truth := anyTrue(r, x)
			want, _ := coefficientOf(x, line, truth)
			if n, e := drag.Ship(x, line, truth); n != want || e != api.OK || n < span.Lo || n > span.Hi {
				t.Fatal(x, truth, n, e, want, span)
			}
		}
		if a, b, e := drag.Holds(slices.Repeat(testsOf(x), 20), lines, slices.Repeat(list(span.Hi), 20)); a != 20 || b != 20 || e != api.OK {
			t.Error(a, b, e)
		}
	}
}

// R5 and R10: a call changes no argument, keeps none, and is answered in the same way again.
func TestRulesOfMemory(t *testing.T) {
	for _, s := range append(samples(100, 14, 9, 4), sample{one(), linesOf(lineA(), lineB())}) {
		x, limits := api.DragTrue{Force: s.t.Force.Lo, Tank: s.t.Tank.Lo, Sea: s.t.Sea.Lo, Form: s.t.Form.Lo, Block: s.t.Block.Lo, Rough: s.t.Rough.Lo}, list(100, 100000)
		lines := copyOf(s.lines)
		first := answers(s.t, s.lines[0], x, 30, s.lines, limits)
		if !reflect.DeepEqual(lines, s.lines) || !slices.Equal(limits, list(100, 100000)) {
			t.Fatal("an argument is changed", s)
		}
		for _, l := range s.lines {
			clear(l.Re)
			clear(l.Cf)
		}
		if again := answers(s.t, lines[0], x, 30, lines, limits); !reflect.DeepEqual(first, again) {
			t.Fatal("another answer", s.t, lines, first, again)
		}
	}
}
