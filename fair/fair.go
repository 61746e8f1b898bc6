// Package fair is layer 1: see shared/doc/01-fair.md.
package fair

import (
	"slices"

	"tumblehome/api"
)

// CheckSpots reports whether spots are valid. (P1.1)
func CheckSpots(s api.FairSpots) api.Errno {
	if len(s.Spots) == 0 || len(s.Spots) > api.MaxFairSpots {
		return api.ErrMany
	}
	for _, r := range s.Spots {
		if !isSpot(r) {
			return api.ErrArg
		}
	}
	if s.Turn < 0 || s.Turn > api.MaxFairTurn {
		return api.ErrArg
	}
	return api.OK
}

// isSpot reports whether a range is one of a spot. It looks at the ends first, as the difference of any two numbers may overflow.
func isSpot(r api.Range) bool {
	return isOffset(r.Lo) && isOffset(r.Hi) && r.Lo <= r.Hi && r.Hi-r.Lo <= api.MaxFairSlack
}

// isOffset reports whether a line may have a number as an offset.
func isOffset(y int64) bool { return -api.MaxFairOffset <= y && y <= api.MaxFairOffset }

// Measure returns the changes and the bend of a line. (P1.1)
func Measure(line []int64) (int, int64, api.Errno) {
	if len(line) == 0 || len(line) > api.MaxLong {
		return 0, 0, api.ErrMany
	}
	for _, y := range line {
		if !isOffset(y) {
			return 0, 0, api.ErrRange
		}
	}
	changes, bend := measure(line)
	return int(changes), bend, api.OK
}

// measure returns the changes and the bend of a line whose offsets are valid.
func measure(line []int64) (changes, bend int64) {
	if len(line) < 2 {
		return 0, 0
	}
	x := state{spot: 1, a: line[0], b: line[1]}
	for _, c := range line[2:] {
		to, more := x.next(c)
		changes = sum(changes, more)
		bend = sum(bend, x.bendTo(c))
		x = to
	}
	return changes, bend
}

// Check returns what a line within spots costs. (P1.2)
func Check(s api.FairSpots, line []int64) (int64, api.Errno) {
	if e := CheckSpots(s); e != api.OK {
		return 0, e
	}
	if len(line) != len(s.Spots) {
		return 0, api.ErrEqual
	}
	for i, r := range s.Spots {
		if line[i] < r.Lo || line[i] > r.Hi {
			return 0, api.ErrFair
		}
	}
	changes, bend := measure(line)
	return sum(bend, s.Turn*changes), api.OK
}

// Fairest returns the fairest line within spots. (P1.3)
func Fairest(s api.FairSpots) ([]int64, int64, api.Errno) {
	if e := CheckSpots(s); e != api.OK {
		return nil, 0, e
	}
	if len(s.Spots) == 1 {
		return []int64{s.Spots[0].Lo}, 0, api.OK
	}
	d := drawing{s}
	due := d.due(d.pay)
	// The least offset at each spot with which the rest costs least: that gives the first line in lexicographic order.
	x, cost := least(d.starts(), due.at)
	line := []int64{x.a, x.b}
	for x.spot < d.last() {
		c, _ := due.onward(x, d.pay)
		x, _ = d.pay(x, c)
		line = append(line, c)
	}
	return line, cost, api.OK
}

// Labels returns labels that prove what a line costs at least. (P1.4)
func Labels(s api.FairSpots) ([]int64, api.Errno) {
	if e := CheckSpots(s); e != api.OK {
		return nil, e
	}
	d := drawing{s}
	paid := d.paid(d.pay)
	var labels []int64
	for x := range d.states() {
		labels = append(labels, paid.at(x))
	}
	return labels, api.OK
}

// CheckLabels returns the bound of labels. (P1.4)
func CheckLabels(s api.FairSpots, labels []int64) (int64, api.Errno) {
	if e := CheckSpots(s); e != api.OK {
		return 0, e
	}
	d := drawing{s}
	states := slices.Collect(d.states())
	if len(labels) != len(states) {
		return 0, api.ErrEqual
	}
	labelled := make(map[state]int64, len(states))
	for i, n := range labels {
		if n < 0 || n > api.MaxNumber {
			return 0, api.ErrRange
		}
		labelled[states[i]] = n
	}
	if !d.right(labelled) {
		return 0, api.ErrSum
	}
	return d.bound(labelled), api.OK
}

// Spread returns where lines with few changes can go. (P1.5)
func Spread(s api.FairSpots, changes int) ([]api.Range, api.Errno) {
	if e := CheckSpots(s); e != api.OK {
		return nil, e
	}
	if changes < 0 {
		return nil, api.ErrRange
	}
	ranges := slices.Clone(s.Spots)
	if len(s.Spots) == 1 {
		return ranges, api.OK
	}
	d := drawing{s}
	paid, due := d.paid(d.count), d.due(d.count)
	marks := make([]bool, wide)
	for i, r := range s.Spots {
		clear(marks)
		for x, n := range paid.reached(max(i, 1)) { // the states of the second spot tell of the first one too
			if sum(n, due.at(x)) <= int64(changes) {
				marks[x.offset(i)-r.Lo] = true
			}
		}
		if !slices.Contains(marks, true) {
			return nil, api.ErrFair
		}
		ranges[i] = marked(r.Lo, marks)
	}
	return ranges, api.OK
}

// marked returns the range of the marked offsets, of which there is at least one; marks begin at lo.
func marked(lo int64, marks []bool) api.Range {
	first := slices.Index(marks, true)
	last := first
	for i := first; i < len(marks); i++ {
		if marks[i] {
			last = i
		}
	}
	return api.Range{Lo: sum(lo, int64(first)), Hi: sum(lo, int64(last))}
}
