package fair_test

import (
	"slices"
	"testing"

	"tumblehome/api"
	"tumblehome/fair"
)

func fairest(t *testing.T, s api.FairSpots) ([]int64, int64) {
	t.Helper()
	l, n, e := fair.Fairest(s)
	if e != api.OK {
		t.Fatal(s, e)
	}
	return l, n
}

func TestP1_6Proved(t *testing.T) {
	for _, s := range append(samples(200, 9), longest(24, 1000000), longest(24, 0)) {
		_, cost := fairest(t, s)
		l, _ := fair.Labels(s)
		if b, e := fair.CheckLabels(s, l); b != cost || e != api.OK {
			t.Fatal(s, b, e, "not", cost)
		}
		for part := int64(2); part <= 5; part++ { // a part of right labels, rounded down, is right too
			less := slices.Clone(l)
			for i := range less {
				less[i] /= part
			}
			if b, e := fair.CheckLabels(s, less); b > cost || e != api.OK {
				t.Fatal(s, b, e, "above", cost)
			}
		}
	}
}

func TestP1_7Tilted(t *testing.T) {
	for _, s := range samples(30, 5) {
		for _, line := range allLines(s.Spots) {
			a, b, _ := fair.Measure(line)
			tilted, back, other := slices.Clone(line), slices.Clone(line), slices.Clone(line)
			slices.Reverse(back)
			for i := range line {
				tilted[i] += 1000 - 77*int64(i)
				other[i] = -line[i]
			}
			for _, l := range [][]int64{tilted, back, other} {
				if c, d, e := fair.Measure(l); c != a || d != b || e != api.OK {
					t.Fatal(line, l, c, d, e)
				}
			}
		}
	}
	for _, s := range samples(100, 9) {
		_, cost := fairest(t, s)
		tilted, back, other := copyOf(s), copyOf(s), copyOf(s)
		slices.Reverse(back.Spots)
		for i, r := range s.Spots {
			more := 500 - 31*int64(i)
			tilted.Spots[i] = rg(r.Lo+more, r.Hi+more)
			other.Spots[i] = rg(-r.Hi, -r.Lo)
		}
		for _, x := range []api.FairSpots{tilted, back, other} {
			if _, n := fairest(t, x); n != cost {
				t.Fatal(s, x, n, cost)
			}
		}
	}
}

func TestP1_8Wider(t *testing.T) {
	for _, s := range samples(200, 9) {
		_, cost := fairest(t, s)
		for i, r := range s.Spots {
			wider := copyOf(s)
			if r.Hi-r.Lo == api.MaxFairSlack {
				continue
			}
			wider.Spots[i].Hi++
			if _, n := fairest(t, wider); n > cost {
				t.Fatal(s, i, n, cost)
			}
			wider.Spots[i] = rg(r.Lo-1, r.Hi)
			if _, n := fairest(t, wider); n > cost {
				t.Fatal(s, i, n, cost)
			}
		}
		for _, turn := range []int64{s.Turn / 2, s.Turn - 1, 0} {
			lesser := copyOf(s)
			lesser.Turn = max(turn, 0)
			if _, n := fairest(t, lesser); n > cost {
				t.Fatal(s, turn, n, cost)
			}
		}
	}
	for _, s := range samples(100, 5) {
		s.Turn = 0
		least := int64(high)
		for _, line := range allLines(s.Spots) {
			least = min(least, bendOf(line))
		}
		if _, n := fairest(t, s); n != least {
			t.Fatal(s, n, least)
		}
	}
}

func TestP1_9Parts(t *testing.T) {
	for _, s := range samples(60, 5) {
		for cut := 1; cut < len(s.Spots); cut++ {
			one, two := spots(s.Turn, s.Spots[:cut]...), spots(s.Turn, s.Spots[cut:]...)
			for _, line := range allLines(s.Spots) {
				n, _ := fair.Check(s, line)
				a, e := fair.Check(one, line[:cut])
				b, f := fair.Check(two, line[cut:])
				if n < a+b || e != api.OK || f != api.OK {
					t.Fatal(s, cut, line, n, a, b, e, f)
				}
			}
			_, n := fairest(t, s)
			_, a := fairest(t, one)
			_, b := fairest(t, two)
			if n < a+b {
				t.Fatal(s, cut, n, a, b)
			}
		}
	}
}

func TestP1_10Spread(t *testing.T) {
	for _, s := range samples(100, 5) {
		var before []api.Range
		for changes := range len(s.Spots) + 1 {
			l, e := fair.Spread(s, changes)
			if before != nil && e != api.OK {
				t.Fatal(s, changes, e)
			}
			for i := range before {
				if l[i].Lo > before[i].Lo || l[i].Hi < before[i].Hi {
					t.Fatal(s, changes, l, "narrower than", before)
				}
			}
			for _, line := range allLines(s.Spots) {
				if changesOf(line) > changes {
					continue
				}
				for i, y := range line {
					if e != api.OK || y < l[i].Lo || y > l[i].Hi {
						t.Fatal(s, changes, line, l, e)
					}
				}
			}
			before = l
		}
		if !slices.Equal(before, s.Spots) {
			t.Fatal(s, before)
		}
	}
	for _, s := range samples(100, 24) {
		if l, e := fair.Spread(s, len(s.Spots)); !slices.Equal(l, s.Spots) || e != api.OK {
			t.Fatal(s, l, e)
		}
	}
}
