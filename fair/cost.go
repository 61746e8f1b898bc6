package fair

import (
	"iter"
	"slices"

	"tumblehome/api"
)

const (
	wide = api.MaxFairSlack + 1 // offsets of a spot, at most
	far  = api.MaxNumber        // what a state costs to which one does not come
)

// costs is what the states of one spot cost: by the offset of the spot before, the own offset (both counted from the least one of their spot on), and the sign.
type costs [wide][wide][signs]int64

// none is the row of two offsets of which one is not within its spot.
var none = [signs]int64{far, far, far}

// priced is spots with what their states cost; tables[i] is about spot i+1, as the first spot has no states.
type priced struct {
	drawing
	tables []costs
}

// unpriced returns tables of states to which one does not come.
func (d drawing) unpriced() priced {
	var t costs
	for a := range t {
		for b := range t[a] {
			t[a][b] = none
		}
	}
	return priced{drawing: d, tables: slices.Repeat([]costs{t}, d.last())}
}

// at returns what a state costs.
func (p priced) at(x state) int64 {
	return p.tables[x.spot-1][x.a-p.Spots[x.spot-1].Lo][x.b-p.Spots[x.spot].Lo][x.sign]
}

// put lays down what a state costs.
func (p priced) put(x state, cost int64) {
	p.tables[x.spot-1][x.a-p.Spots[x.spot-1].Lo][x.b-p.Spots[x.spot].Lo][x.sign] = cost
}

// reached yields the states of spot i to which one comes, with what they cost.
func (p priced) reached(i int) iter.Seq2[state, int64] {
	return func(yield func(state, int64) bool) {
		t := p.tables[i-1]
	before:
		for a := range wide {
			for b := range wide {
				if t[a][b] == none {
					continue before // greater offsets are not within their spot either
				}
				for sign, cost := range t[a][b] {
					x := state{spot: i, a: sum(p.Spots[i-1].Lo, int64(a)), b: sum(p.Spots[i].Lo, int64(b)), sign: sign}
					if cost < far && !yield(x, cost) {
						return
					}
				}
			}
		}
	}
}

// paid returns for each state the least sum of the steps from a start to it.
func (d drawing) paid(by step) priced {
	p := d.unpriced()
	if d.last() == 0 {
		return p
	}
	for x := range d.starts() {
		p.put(x, 0)
	}
	for i := 1; i < d.last(); i++ {
		for x, cost := range p.reached(i) {
			for c := range offsets(d.Spots[i+1]) {
				to, more := by(x, c)
				p.put(to, min(p.at(to), sum(cost, more)))
			}
		}
	}
	return p
}

// due returns for each state the least sum of the steps from it to the last spot.
func (d drawing) due(by step) priced {
	p := d.unpriced()
	for _, x := range turned(slices.Collect(d.states())) {
		_, cost := p.onward(x, by)
		p.put(x, cost)
	}
	return p
}

// onward returns the first offset of the next spot through which the steps from x to the last spot have the least sum, and this sum; 0 and 0 at the last spot. The states of the next spot have to be priced.
func (p priced) onward(x state, by step) (int64, int64) {
	if x.spot == p.last() {
		return 0, 0
	}
	return least(offsets(p.Spots[x.spot+1]), func(c int64) int64 {
		to, cost := by(x, c)
		return sum(cost, p.at(to))
	})
}

// least returns the first one that costs least, and what it costs.
func least[T any](all iter.Seq[T], cost func(T) int64) (T, int64) {
	var best T
	var lowest int64
	found := false
	for x := range all {
		if c := cost(x); !found || c < lowest {
			best, lowest, found = x, c, true
		}
	}
	return best, lowest
}

// turned returns a copy of a list from its end on.
func turned[T any](list []T) []T {
	back := append(list[:0:0], list...) // with no room left, append has to make a copy
	slices.Reverse(back)
	return back
}

// sum returns the sum of some numbers.
func sum(all ...int64) int64 {
	var total int64
	for _, n := range all {
		total += n
	}
	return total
}
