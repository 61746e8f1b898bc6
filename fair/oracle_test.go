package fair_test

import (
	"math"
	"math/rand"
	"slices"

	"tumblehome/api"
)

// What the chapter defines, written down once more as plainly as can be: by trying all lines.

const (
	low  = math.MinInt64
	high = math.MaxInt64
)

func rg(lo, hi int64) api.Range { return api.Range{Lo: lo, Hi: hi} }

func spots(turn int64, l ...api.Range) api.FairSpots { return api.FairSpots{Spots: l, Turn: turn} }

// points are spots of one offset each.
func points(turn int64, l ...int64) api.FairSpots {
	s := api.FairSpots{Turn: turn}
	for _, y := range l {
		s.Spots = append(s.Spots, rg(y, y))
	}
	return s
}

func five(turn int64) api.FairSpots {
	return spots(turn, rg(0, 0), rg(2, 3), rg(4, 4), rg(5, 7), rg(10, 10))
}

func copyOf(s api.FairSpots) api.FairSpots {
	return api.FairSpots{Spots: slices.Clone(s.Spots), Turn: s.Turn}
}

func amount(n int64) int64 {
	if n < 0 {
		return -n
	}
	return n
}

// seconds are the second differences of a line.
func seconds(line []int64) []int64 {
	var out []int64
	for i := 1; i+1 < len(line); i++ {
		out = append(out, line[i-1]-2*line[i]+line[i+1])
	}
	return out
}

func bendOf(line []int64) int64 {
	var n int64
	for _, d := range seconds(line) {
		n += amount(d)
	}
	return n
}

// changesOf counts pairs with other signs between which all others are 0.
func changesOf(line []int64) int {
	n := 0
	l := seconds(line)
	for i := range l {
		for k := i + 1; k < len(l); k++ {
			between := slices.ContainsFunc(l[i+1:k], func(d int64) bool { return d != 0 })
			if !between && (l[i] > 0 && l[k] < 0 || l[i] < 0 && l[k] > 0) {
				n++
			}
		}
	}
	return n
}

func costOf(turn int64, line []int64) int64 {
	return bendOf(line) + turn*int64(changesOf(line))
}

// allLines are all lines within spots, in lexicographic order.
func allLines(l []api.Range) [][]int64 {
	lines := [][]int64{nil}
	for _, r := range l {
		var longer [][]int64
		for _, line := range lines {
			for y := r.Lo; y <= r.Hi; y++ {
				longer = append(longer, append(slices.Clone(line), y))
			}
		}
		lines = longer
	}
	return lines
}

// fairestOf is the first line that costs least.
func fairestOf(s api.FairSpots) ([]int64, int64) {
	var best []int64
	for _, line := range allLines(s.Spots) {
		if best == nil || costOf(s.Turn, line) < costOf(s.Turn, best) {
			best = line
		}
	}
	return best, costOf(s.Turn, best)
}

// spreadOf is where lines with few changes go; nil if there are none.
func spreadOf(s api.FairSpots, changes int) []api.Range {
	var out []api.Range
	for _, line := range allLines(s.Spots) {
		if changesOf(line) > changes {
			continue
		}
		if out == nil {
			for _, y := range line {
				out = append(out, rg(y, y))
			}
		}
		for i, y := range line {
			out[i] = rg(min(out[i].Lo, y), max(out[i].Hi, y))
		}
	}
	return out
}

// a place is a state of a spot.
type place struct {
	spot int
	a, b int64
	sign int
}

func placesOf(s api.FairSpots) []place {
	var out []place
	for i := 1; i < len(s.Spots); i++ {
		for a := s.Spots[i-1].Lo; a <= s.Spots[i-1].Hi; a++ {
			for b := s.Spots[i].Lo; b <= s.Spots[i].Hi; b++ {
				for sign := 0; sign < 3; sign++ {
					out = append(out, place{i, a, b, sign})
				}
			}
		}
	}
	return out
}

// placeOf is the last state of a line of at least two offsets.
func placeOf(line []int64) place {
	n := len(line)
	x := place{n - 1, line[n-2], line[n-1], 0}
	for _, d := range seconds(line) {
		if d > 0 {
			x.sign = 1
		}
		if d < 0 {
			x.sign = 2
		}
	}
	return x
}

// labelsOf tries the beginnings of all lines.
func labelsOf(s api.FairSpots) []int64 {
	best := map[place]int64{}
	for n := 2; n <= len(s.Spots); n++ {
		for _, line := range allLines(s.Spots[:n]) {
			x := placeOf(line)
			if old, ok := best[x]; !ok || costOf(s.Turn, line) < old {
				best[x] = costOf(s.Turn, line)
			}
		}
	}
	var out []int64
	for _, x := range placesOf(s) {
		if n, ok := best[x]; ok {
			out = append(out, n)
		} else {
			out = append(out, api.MaxNumber)
		}
	}
	return out
}

// leads tells whether one state leads to another, and what it costs.
func leads(turn int64, x, to place) (int64, bool) {
	if to.spot != x.spot+1 || to.a != x.b {
		return 0, false
	}
	d := x.a - 2*x.b + to.b
	sign := x.sign
	if d > 0 {
		sign = 1
	}
	if d < 0 {
		sign = 2
	}
	if to.sign != sign {
		return 0, false
	}
	if x.sign != 0 && sign != x.sign {
		return amount(d) + turn, true
	}
	return amount(d), true
}

// rightOf holds the labels of all pairs of states against each other.
func rightOf(s api.FairSpots, labels []int64) bool {
	l := placesOf(s)
	for i, x := range l {
		if x.spot == 1 && x.sign == 0 && labels[i] != 0 {
			return false
		}
		for k, to := range l {
			if cost, ok := leads(s.Turn, x, to); ok && labels[k] > labels[i]+cost {
				return false
			}
		}
	}
	return true
}

func boundOf(s api.FairSpots, labels []int64) int64 {
	bound := int64(-1)
	for i, x := range placesOf(s) {
		if x.spot == len(s.Spots)-1 && (bound < 0 || labels[i] < bound) {
			bound = labels[i]
		}
	}
	return max(bound, 0)
}

// samples are spots of many shapes, always the same ones: narrow and wide ranges, lines nearly straight and not at all, and Turn from 0 on.
func samples(many, most int) []api.FairSpots {
	r := rand.New(rand.NewSource(1872))
	var out []api.FairSpots
	for i := range many {
		s := api.FairSpots{Turn: []int64{0, 1, 2, 5, 100, api.MaxFairTurn}[r.Intn(6)]}
		for k := range 1 + i%most {
			lo := int64(r.Intn(7)) - 3
			if i%2 == 0 {
				lo += int64(k * k % 7)
			}
			s.Spots = append(s.Spots, rg(lo, lo+int64(r.Intn(api.MaxFairSlack+1))))
		}
		out = append(out, s)
	}
	return out
}

// longest are spots at all limits, up and down, with n of them.
func longest(n int, turn int64) api.FairSpots {
	s := api.FairSpots{Turn: turn}
	for i := range n {
		if i%2 == 0 {
			s.Spots = append(s.Spots, rg(-1000000, -999996))
		} else {
			s.Spots = append(s.Spots, rg(999996, 1000000))
		}
	}
	return s
}
