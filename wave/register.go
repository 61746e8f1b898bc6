package wave

import "iter"

// register is taps, and how many there are.
type register struct {
	taps words
	long int
}

// registerOf takes over taps that are checked.
func registerOf(taps []int) register { return register{taps: wordsOf(taps), long: len(taps)} }

// list returns the taps.
func (r register) list() []int { return r.taps.list(r.long) }

// state is the last bits that a register made, as many as it has taps. The one made last comes first, as the first tap is for it.
type state struct {
	last words
}

// begun returns the state behind a start.
func (r register) begun(start []int) state {
	var x state
	for _, bit := range start {
		x = r.after(x, bit)
	}
	return x
}

// after returns the state in which a bit more was made.
func (r register) after(x state, bit int) state {
	newest := words{uint64(bit)}
	return state{last: sum(newest, x.last.up(1)).first(r.long)}
}

// next returns the bit that is made in a state.
func (r register) next(x state) int { return r.taps.times(x.last).ones() % 2 }

// run yields the bits that are made behind a start, without an end.
func (r register) run(start []int) iter.Seq[int] {
	return func(yield func(int) bool) {
		x := r.begun(start)
		for {
			bit := r.next(x)
			if !yield(bit) {
				return
			}
			x = r.after(x, bit)
		}
	}
}

// wrong returns the index of the first bit that is not made, or how many bits there are if all of them are.
func (r register) wrong(bits []int) int {
	if r.long > len(bits) {
		return len(bits)
	}
	place := r.long
search:
	for bit := range r.run(bits[:r.long]) {
		switch {
		case place == len(bits): // all are made
			break search
		case bit != bits[place]:
			break search
		}
		place++
	}
	return place
}

// comesBack reports whether each state comes after just one other: then a start comes again.
func (r register) comesBack() bool { return r.long == 0 || r.taps.at(r.long-1) == 1 }

// period returns the period from a start, to which it has to come back.
func (r register) period(start []int) int {
	unseen := make(map[state]bool)
	for n := range uint64(1) << r.long {
		unseen[state{last: words{n}}] = true
	}
	many := 0
	for x := r.begun(start); unseen[x]; x = r.after(x, r.next(x)) {
		delete(unseen, x)
		many++
	}
	return many
}

// isFull reports whether a register with taps is full.
func (r register) isFull() bool {
	if !r.comesBack() {
		return false
	}
	start := words{1}.list(r.long)
	return r.period(start) == 1<<r.long-1
}

// tries returns the taps of all registers of a length, in lexicographic order.
func tries(long int) [][]int {
	all := [][]int{nil}
	for range long {
		var longer [][]int
		for _, taps := range all {
			longer = append(longer, grown(taps, 0), grown(taps, 1))
		}
		all = longer
	}
	return all
}

// grown returns taps with one more behind them.
func grown(taps []int, tap int) []int {
	many := len(taps)
	return append(taps[:many:many], tap) // with no room left, append has to make a copy: other taps grow from these too
}
