package fair

import (
	"iter"

	"tumblehome/api"
)

// The signs of a state.
const (
	level = iota // the line has not bent yet
	above
	below
	signs // how many there are
)

// state says that a line has the offset a at the spot before, the offset b at its own spot, and which sign its last second difference has that is not 0.
type state struct {
	spot int
	a, b int64
	sign int
}

// next returns to which state with the offset c at the next spot a state leads, and how many changes that makes: 0 or 1.
func (x state) next(c int64) (state, int64) {
	to := state{spot: x.spot + 1, a: x.b, b: c, sign: x.sign}
	switch d := x.second(c); {
	case d > 0:
		to.sign = above
	case d < 0:
		to.sign = below
	}
	if x.sign != level && x.sign != to.sign {
		return to, 1
	}
	return to, 0
}

// second returns the second difference of a line that goes on to the offset c.
func (x state) second(c int64) int64 { return x.a - 2*x.b + c }

// bendTo returns by how much a line bends that goes on to the offset c.
func (x state) bendTo(c int64) int64 {
	d := x.second(c)
	return max(d, -d)
}

// offset returns the offset of spot i, which is that of the state or the one before.
func (x state) offset(i int) int64 {
	if i == x.spot {
		return x.b
	}
	return x.a
}

// step tells to which state with a given offset another one leads, and what counts for it.
type step func(x state, c int64) (state, int64)

// drawing is valid spots through which lines are drawn.
type drawing struct {
	api.FairSpots
}

// last returns the index of the last spot.
func (d drawing) last() int { return len(d.Spots) - 1 }

// pay is a step that counts what the line costs.
func (d drawing) pay(x state, c int64) (state, int64) {
	to, changes := x.next(c)
	return to, sum(x.bendTo(c), d.Turn*changes)
}

// count is a step that counts changes only.
func (d drawing) count(x state, c int64) (state, int64) { return x.next(c) }

// states yields all states in their order.
func (d drawing) states() iter.Seq[state] {
	return func(yield func(state) bool) {
		for i := 1; i <= d.last(); i++ {
			for x := range d.statesOf(i) {
				if !yield(x) {
					return
				}
			}
		}
	}
}

// statesOf yields the states of spot i, which is not the first one, in their order.
func (d drawing) statesOf(i int) iter.Seq[state] {
	return func(yield func(state) bool) {
		for a := range offsets(d.Spots[i-1]) {
			for b := range offsets(d.Spots[i]) {
				for sign := range signs {
					if !yield(state{spot: i, a: a, b: b, sign: sign}) {
						return
					}
				}
			}
		}
	}
}

// starts yields the states with which lines begin, in their order; there are at least two spots.
func (d drawing) starts() iter.Seq[state] {
	return func(yield func(state) bool) {
		for x := range d.statesOf(1) {
			if x.sign == level && !yield(x) {
				return
			}
		}
	}
}

// offsets yields the numbers of a range.
func offsets(r api.Range) iter.Seq[int64] {
	return func(yield func(int64) bool) {
		for y := r.Lo; y <= r.Hi; y++ {
			if !yield(y) {
				return
			}
		}
	}
}

// right reports whether labels are right.
func (d drawing) right(labels map[state]int64) bool {
	for x := range d.states() {
		if x.spot == 1 && x.sign == level && labels[x] != 0 {
			return false
		}
		if x.spot < d.last() && !d.leadsRight(x, labels) {
			return false
		}
	}
	return true
}

// leadsRight reports whether no state to which x leads has a label beyond that of x and what it costs; x is not of the last spot.
func (d drawing) leadsRight(x state, labels map[state]int64) bool {
	for c := range offsets(d.Spots[x.spot+1]) {
		to, cost := d.pay(x, c)
		if labels[to] > sum(labels[x], cost) {
			return false
		}
	}
	return true
}

// bound returns the bound of labels.
func (d drawing) bound(labels map[state]int64) int64 {
	if d.last() == 0 {
		return 0
	}
	_, bound := least(d.statesOf(d.last()), func(x state) int64 { return labels[x] })
	return bound
}
