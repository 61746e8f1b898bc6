package fair_test

import (
	"reflect"
	"slices"
	"testing"

	"tumblehome/api"
	"tumblehome/fair"
)

// invalid are spots with the error of each.
func invalid() []struct {
	s api.FairSpots
	e api.Errno
} {
	type row = struct {
		s api.FairSpots
		e api.Errno
	}
	return []row{
		{api.FairSpots{}, api.ErrMany},
		{api.FairSpots{Spots: []api.Range{}}, api.ErrMany},
		{spots(0, make([]api.Range, 25)...), api.ErrMany},
		{spots(0, make([]api.Range, 5000)...), api.ErrMany},
		{spots(-1), api.ErrMany},
		{spots(1000001, slices.Repeat([]api.Range{rg(1, 0)}, 25)...), api.ErrMany},
		{spots(-1, rg(0, 0)), api.ErrArg},
		{spots(low, rg(0, 0)), api.ErrArg},
		{spots(high, rg(0, 0)), api.ErrArg},
		{spots(1000001, rg(0, 0)), api.ErrArg},
		{spots(0, rg(1, 0)), api.ErrArg},
		{spots(0, rg(0, 5)), api.ErrArg},
		{spots(0, rg(0, 0), rg(0, 0), rg(-3, 2)), api.ErrArg},
		{spots(0, rg(-1000001, -1000000)), api.ErrArg},
		{spots(0, rg(1000000, 1000001)), api.ErrArg},
		{spots(0, rg(1000001, 1000001)), api.ErrArg},
		{spots(0, rg(low, low)), api.ErrArg},
		{spots(0, rg(high, high)), api.ErrArg},
		{spots(0, rg(high, low)), api.ErrArg}, // Hi - Lo wraps around to 1
		{spots(0, rg(low, high)), api.ErrArg}, // Hi - Lo wraps around to -1
	}
}

func TestP1_1CheckSpots(t *testing.T) {
	for i, x := range invalid() {
		if e := fair.CheckSpots(x.s); e != x.e {
			t.Error(i, e)
		}
	}
	for i, s := range []api.FairSpots{
		five(0), five(1000000), points(0, 0), points(0, 1000000, -1000000),
		spots(7, rg(0, 4)), spots(7, rg(-1000000, -999996), rg(999996, 1000000)),
		longest(24, 1000000), spots(0, make([]api.Range, 24)...),
	} {
		if e := fair.CheckSpots(s); e != api.OK {
			t.Error(i, e)
		}
	}
}

func TestP1_1SpotsFirst(t *testing.T) {
	for i, x := range invalid() {
		if n, e := fair.Check(x.s, nil); n != 0 || e != x.e {
			t.Error("Check", i, n, e)
		}
		if l, n, e := fair.Fairest(x.s); len(l) != 0 || n != 0 || e != x.e {
			t.Error("Fairest", i, l, n, e)
		}
		if l, e := fair.Labels(x.s); len(l) != 0 || e != x.e {
			t.Error("Labels", i, l, e)
		}
		if n, e := fair.CheckLabels(x.s, []int64{-1}); n != 0 || e != x.e {
			t.Error("CheckLabels", i, n, e)
		}
		if l, e := fair.Spread(x.s, -1); len(l) != 0 || e != x.e {
			t.Error("Spread", i, l, e)
		}
	}
}

func TestP1_1Measure(t *testing.T) {
	zigzag := make([]int64, 4096) // at all limits
	for i := range zigzag {
		zigzag[i] = 1000000 - int64(i%2)*2000000
	}
	for i, x := range []struct {
		line    []int64
		changes int
		bend    int64
		e       api.Errno
	}{
		{[]int64{0, 3, 4, 7, 10}, 1, 4, api.OK},
		{[]int64{0, 2, 4, 6, 9}, 0, 1, api.OK},
		{[]int64{5}, 0, 0, api.OK},
		{[]int64{-1000000}, 0, 0, api.OK},
		{[]int64{1000000, -1000000}, 0, 0, api.OK},
		{[]int64{1, 2, 4}, 0, 1, api.OK},
		{[]int64{4, 2, 1}, 0, 1, api.OK},
		{[]int64{0, 1, 2, 2, 2, 3, 4}, 1, 2, api.OK}, // 0s between -1 and 1
		{[]int64{0, 1, 3, 5, 8}, 0, 2, api.OK},       // a 0 between 1 and 1
		{[]int64{0, 1, 0, 1, 0}, 2, 6, api.OK},
		{zigzag, 4093, 4094 * 4000000, api.OK},
		{make([]int64, 4096), 0, 0, api.OK},
		{nil, 0, 0, api.ErrMany},
		{[]int64{}, 0, 0, api.ErrMany},
		{make([]int64, 4097), 0, 0, api.ErrMany},
		{slices.Repeat([]int64{high}, 4097), 0, 0, api.ErrMany},
		{[]int64{0, 0, 1000001}, 0, 0, api.ErrRange},
		{[]int64{-1000001}, 0, 0, api.ErrRange},
		{[]int64{low}, 0, 0, api.ErrRange},
		{[]int64{0, high, 0}, 0, 0, api.ErrRange},
	} {
		if a, b, e := fair.Measure(x.line); a != x.changes || b != x.bend || e != x.e {
			t.Error(i, a, b, e)
		}
	}
	for _, s := range samples(60, 5) {
		for _, line := range allLines(s.Spots) {
			if a, b, e := fair.Measure(line); a != changesOf(line) || b != bendOf(line) || e != api.OK {
				t.Fatal(line, a, b, e)
			}
		}
	}
}

func TestP1_2Check(t *testing.T) {
	for i, x := range []struct {
		s    api.FairSpots
		line []int64
		cost int64
		e    api.Errno
	}{
		{five(100), []int64{0, 2, 4, 6, 10}, 2, api.OK},
		{five(100), []int64{0, 2, 4, 7, 10}, 1, api.OK},
		{five(100), []int64{0, 3, 4, 7, 10}, 104, api.OK},
		{five(0), []int64{0, 3, 4, 7, 10}, 4, api.OK},
		{five(100), []int64{0, 2, 4, 8, 10}, 0, api.ErrFair},
		{five(100), []int64{0, 1, 4, 6, 10}, 0, api.ErrFair},
		{five(100), []int64{low, 2, 4, 6, 10}, 0, api.ErrFair},
		{five(100), []int64{0, 2, 4, 6, high}, 0, api.ErrFair},
		{five(100), []int64{0, 2, 4, 6}, 0, api.ErrEqual},
		{five(100), []int64{0, 2, 4, 6, 10, 14}, 0, api.ErrEqual},
		{five(100), []int64{99}, 0, api.ErrEqual},
		{five(100), nil, 0, api.ErrEqual},
		{five(100), []int64{}, 0, api.ErrEqual},
		{spots(9, rg(3, 6)), []int64{6}, 0, api.OK},
		{spots(9, rg(3, 6)), []int64{7}, 0, api.ErrFair},
		{spots(9, rg(3, 6)), []int64{2}, 0, api.ErrFair},
		{spots(9, rg(3, 6), rg(-9, -9)), []int64{4, -9}, 0, api.OK},
		{longest(3, 1000000), []int64{-1000000, 1000000, -1000000}, 4000000, api.OK},
		{longest(4, 1000000), []int64{-1000000, 1000000, -1000000, 1000000}, 9000000, api.OK},
	} {
		if n, e := fair.Check(x.s, x.line); n != x.cost || e != x.e {
			t.Error(i, n, e)
		}
	}
	for _, s := range samples(60, 5) {
		for _, line := range allLines(s.Spots) {
			if n, e := fair.Check(s, line); n != costOf(s.Turn, line) || e != api.OK {
				t.Fatal(s, line, n, e)
			}
		}
	}
}

func TestP1_3Fairest(t *testing.T) {
	for i, x := range []struct {
		s    api.FairSpots
		line []int64
		cost int64
	}{
		{five(100), []int64{0, 2, 4, 7, 10}, 1},
		{five(0), []int64{0, 2, 4, 7, 10}, 1},
		{spots(7, rg(3, 6)), []int64{3}, 0},
		{points(7, -1000000), []int64{-1000000}, 0},
		{spots(7, rg(3, 6), rg(-2, 1)), []int64{3, -2}, 0},
		{spots(7, rg(0, 4), rg(0, 4), rg(0, 4)), []int64{0, 0, 0}, 0},
		{spots(7, rg(0, 4), rg(1, 4), rg(3, 4)), []int64{0, 2, 4}, 0},
		{points(0, 0, 5, 0, 5), []int64{0, 5, 0, 5}, 20},
		{points(9, 0, 5, 0, 5), []int64{0, 5, 0, 5}, 29},
		{longest(2, 1000000), []int64{-1000000, 999996}, 0},
	} {
		if l, n, e := fair.Fairest(x.s); !slices.Equal(l, x.line) || n != x.cost || e != api.OK {
			t.Error(i, l, n, e)
		}
	}
	for _, s := range samples(300, 5) {
		want, cost := fairestOf(s)
		if l, n, e := fair.Fairest(s); !slices.Equal(l, want) || n != cost || e != api.OK {
			t.Fatal(s, l, n, e, "not", want, cost)
		}
	}
}

func TestP1_3FairestAtTheLimits(t *testing.T) {
	s := longest(24, 1000000)
	l, n, e := fair.Fairest(s)
	// 22 second differences of 4 times 999996, all with another sign than the one before
	if e != api.OK || n != 22*4*999996+21*1000000 {
		t.Error(l, n, e)
	}
	if c, e := fair.Check(s, l); c != n || e != api.OK {
		t.Error(l, c, e)
	}
	if l, n, e := fair.Fairest(spots(1, slices.Repeat([]api.Range{rg(-2, 2)}, 24)...)); e != api.OK || n != 0 || !slices.Equal(l, slices.Repeat([]int64{-2}, 24)) {
		t.Error(l, n, e)
	}
}

func TestP1_4Labels(t *testing.T) {
	for _, s := range samples(300, 5) {
		want := labelsOf(s)
		l, e := fair.Labels(s)
		if !slices.Equal(l, want) || e != api.OK {
			t.Fatal(s, l, e, "not", want)
		}
		if b, e := fair.CheckLabels(s, l); b != boundOf(s, want) || e != api.OK {
			t.Fatal(s, b, e)
		}
	}
	if l, e := fair.Labels(spots(0, rg(0, 4))); len(l) != 0 || e != api.OK {
		t.Error(l, e)
	}
	two := spots(7, rg(0, 1), rg(5, 5)) // nothing leads to a sign
	if l, e := fair.Labels(two); !slices.Equal(l, []int64{0, api.MaxNumber, api.MaxNumber, 0, api.MaxNumber, api.MaxNumber}) || e != api.OK {
		t.Error(l, e)
	}
	s := longest(24, 1000000)
	l, e := fair.Labels(s)
	if len(l) != 23*5*5*3 || e != api.OK {
		t.Error(len(l), e)
	}
	if b, e := fair.CheckLabels(s, l); b != 22*4*999996+21*1000000 || e != api.OK {
		t.Error(b, e)
	}
}

func TestP1_4CheckLabels(t *testing.T) {
	const far = api.MaxNumber
	three := spots(5, rg(0, 1), rg(1, 1), rg(1, 1))
	two := spots(5, rg(0, 0), rg(3, 3))
	one := spots(5, rg(0, 4))
	for i, x := range []struct {
		s api.FairSpots
		l []int64
		b int64
		e api.Errno
	}{
		{three, []int64{0, far, far, 0, far, far, 0, far, 1}, 0, api.OK},
		{three, make([]int64, 9), 0, api.OK},
		{three, []int64{0, 3, 3, 0, 3, 3, 0, 3, 1}, 0, api.OK},
		{three, []int64{0, 3, 3, 0, 3, 3, 0, 4, 1}, 0, api.ErrSum},
		{three, []int64{0, far, far, 0, far, far, 0, far, far}, 0, api.ErrSum},
		{three, []int64{0, 0, 0, 0, 0, 0, 1, 0, 0}, 0, api.ErrSum},
		{three, []int64{1, 0, 0, 0, 0, 0, 0, 0, 0}, 0, api.ErrSum},
		{three, []int64{0, 0, 0, 1, 0, 0, 0, 0, 0}, 0, api.ErrSum},
		{three, make([]int64, 8), 0, api.ErrEqual},
		{three, make([]int64, 10), 0, api.ErrEqual},
		{three, slices.Repeat([]int64{-1}, 10), 0, api.ErrEqual},
		{three, nil, 0, api.ErrEqual},
		{three, []int64{1, 0, 0, 0, 0, 0, 0, 0, -1}, 0, api.ErrRange},
		{three, []int64{1, 0, 0, 0, 0, 0, 0, 0, far + 1}, 0, api.ErrRange},
		{three, []int64{0, 0, 0, 0, 0, 0, 0, 0, low}, 0, api.ErrRange},
		{three, []int64{0, high, 0, 0, 0, 0, 0, 0, 0}, 0, api.ErrRange},
		{two, []int64{0, far, 0}, 0, api.OK},
		{two, []int64{0, far, far}, 0, api.OK},
		{two, []int64{far, far, far}, 0, api.ErrSum},
		{one, nil, 0, api.OK},
		{one, []int64{}, 0, api.OK},
		{one, []int64{0}, 0, api.ErrEqual},
	} {
		if b, e := fair.CheckLabels(x.s, x.l); b != x.b || e != x.e {
			t.Error(i, b, e)
		}
	}
}

// Labels that are one more, or one less, at one state are right just if the chapter says so.
func TestP1_4CheckLabelsNearby(t *testing.T) {
	for _, s := range samples(40, 4) {
		l, e := fair.Labels(s)
		if e != api.OK {
			t.Fatal(s, e)
		}
		for i := range l {
			for _, more := range []int64{-1, 1} {
				k := slices.Clone(l)
				k[i] += more
				want, bound := api.OK, int64(0)
				switch {
				case k[i] < 0 || k[i] > api.MaxNumber:
					want = api.ErrRange
				case !rightOf(s, k):
					want = api.ErrSum
				default:
					bound = boundOf(s, k)
				}
				if b, e := fair.CheckLabels(s, k); b != bound || e != want {
					t.Fatal(s, k, b, e, "not", bound, want)
				}
			}
		}
	}
}

func TestP1_5Spread(t *testing.T) {
	bent := points(0, 0, 5, 0, 5)
	for i, x := range []struct {
		s       api.FairSpots
		changes int
		want    []api.Range
		e       api.Errno
	}{
		{five(100), 0, []api.Range{rg(0, 0), rg(2, 2), rg(4, 4), rg(6, 7), rg(10, 10)}, api.OK},
		{five(100), 1, five(0).Spots, api.OK},
		{five(0), 1 << 62, five(0).Spots, api.OK},
		{five(0), high, five(0).Spots, api.OK},
		{five(0), -1, nil, api.ErrRange},
		{bent, low, nil, api.ErrRange},
		{bent, 0, nil, api.ErrFair},
		{bent, 1, bent.Spots, api.OK},
		{spots(0, rg(0, 3)), 0, []api.Range{rg(0, 3)}, api.OK},
		{spots(0, rg(0, 3)), -1, nil, api.ErrRange},
		{spots(0, rg(0, 3), rg(9, 9)), 0, []api.Range{rg(0, 3), rg(9, 9)}, api.OK},
		{longest(24, 0), 20, nil, api.ErrFair},
		{longest(24, 0), 21, longest(24, 0).Spots, api.OK},
	} {
		if l, e := fair.Spread(x.s, x.changes); !slices.Equal(l, x.want) || e != x.e {
			t.Error(i, l, e)
		}
	}
	for _, s := range samples(300, 5) {
		for changes := range 4 {
			want, f := spreadOf(s, changes), api.OK
			if want == nil {
				f = api.ErrFair
			}
			if l, e := fair.Spread(s, changes); !slices.Equal(l, want) || e != f {
				t.Fatal(s, changes, l, e, "not", want, f)
			}
		}
	}
}

// answers is what all functions return for some spots, a line and labels.
func answers(s api.FairSpots, line, labels []int64) []any {
	a, b, e1 := fair.Measure(line)
	c, e2 := fair.Check(s, line)
	d, f, e3 := fair.Fairest(s)
	g, e4 := fair.Labels(s)
	h, e5 := fair.CheckLabels(s, labels)
	i, e6 := fair.Spread(s, 1)
	return []any{fair.CheckSpots(s), a, b, e1, c, e2, d, f, e3, g, e4, h, e5, i, e6}
}

// P1: every function ends without a panic, whatever it is given.
func TestP1AnyArguments(t *testing.T) {
	ends := []int64{low, low + 1, -1000001, -1000000, -1, 0, 4, 5, 1000000, 1000001, high - 1, high}
	for _, lo := range ends {
		for _, hi := range ends {
			for _, turn := range ends {
				s := spots(turn, rg(0, 4), rg(lo, hi), rg(hi, lo))
				answers(s, []int64{lo, hi, turn, lo}, []int64{lo, hi, turn})
				answers(spots(turn, rg(lo, hi)), []int64{hi}, nil)
				fair.Spread(s, int(lo))
			}
		}
	}
	answers(api.FairSpots{}, nil, nil)
}

// R3, R5 and R10: a call changes no argument, shares no memory, and is answered in the same way again.
func TestRulesOfMemory(t *testing.T) {
	for _, s := range append(samples(40, 5), five(3), longest(24, 1)) {
		line, _, _ := fair.Fairest(s)
		labels, _ := fair.Labels(s)
		s2, line2, labels2 := copyOf(s), slices.Clone(line), slices.Clone(labels)
		first := answers(s, line, labels)
		if !reflect.DeepEqual(s, s2) || !slices.Equal(line, line2) || !slices.Equal(labels, labels2) {
			t.Fatal("an argument is changed", s2)
		}
		if again := answers(s, line, labels); !reflect.DeepEqual(first, again) {
			t.Fatal("another answer", s, first, again)
		}
		ranges, _ := fair.Spread(s, len(s.Spots))
		kept := slices.Clone(ranges)
		for i := range s.Spots {
			s.Spots[i] = rg(77, 77)
		}
		if !slices.Equal(ranges, kept) {
			t.Fatal("a result shares memory with the spots", s2)
		}
		for _, l := range [][]int64{line, labels} {
			for i := range l {
				l[i] = -7
			}
		}
		if again := answers(s2, line2, labels2); !reflect.DeepEqual(first, again) {
			t.Fatal("a result is kept", s2)
		}
	}
}
