package run

import (
	"iter"
	"math/bits"
	"slices"
)

// set is a set of runs: it has a bit for each of them.
type set int

// has reports whether a run is in the set.
func (s set) has(run int) bool { return s>>run&1 == 1 }

// with returns the set with a run that is not in it.
func (s set) with(run int) set { return s | 1<<run }

// without returns the set without a run.
func (s set) without(run int) set { return s &^ (1 << run) }

// many returns how many runs are in the set.
func (s set) many() int { return bits.OnesCount(uint(s)) }

// state is what later runs need to know of the order of those before: which ones they are, and which one is the last.
type state struct {
	runs set
	last int
}

// place returns the index that a state has in the tables of a day with so many runs.
func (s state) place(many int) int { return int(s.runs)*many + s.last }

// places returns how many numbers those tables have.
func places(many int) int { return many << many }

// states yields the state of each index of the tables of a day with so many runs, from the first one on; also those whose last run is not in their set.
func states(many int) iter.Seq[state] {
	return func(yield func(state) bool) {
		for place := range places(many) {
			if !yield(state{set(place / many), place % many}) {
				return
			}
		}
	}
}

// rounds yields the states of the orders of one run that can be kept, of two runs, and so on, each with the minute at which the last run is over at the earliest. What is yielded is cleared when the next one is.
func (d *day) rounds() iter.Seq[map[state]int64] {
	return func(yield func(map[state]int64) bool) {
		now, next := make(map[state]int64), make(map[state]int64)
		grow := func(runs set, begin func(run int) int64) {
			for run, r := range d.runs {
				over := r.over(begin(run))
				if over == never || runs.has(run) {
					continue
				}
				grown := state{runs.with(run), run}
				if known, isKnown := next[grown]; isKnown {
					over = least(over, known)
				}
				next[grown] = over
			}
		}
		grow(0, d.first)
		for len(next) > 0 {
			now, next = next, now
			if !yield(now) {
				return
			}
			for s, over := range now {
				grow(s.runs, behind{d, s.last, over}.begin)
			}
			clear(now)
		}
	}
}

// table returns the table of times.
func (d *day) table() []int64 {
	many := len(d.runs)
	table := slices.Repeat([]int64{never}, places(many))
	for round := range d.rounds() {
		for s, over := range round {
			table[s.place(many)] = over
		}
	}
	return table
}

// bound returns the greatest number that a right table can have for a state whose last run is in its set, by its other numbers.
func (d *day) bound(table []int64, s state) int64 {
	before := s.runs.without(s.last)
	r := d.runs[s.last]
	if before == 0 {
		return r.over(d.first(s.last))
	}
	var all []int64
	for run := range d.runs {
		if before.has(run) {
			over := table[state{before, run}.place(len(d.runs))]
			all = append(all, r.over(behind{d, run, over}.begin(s.last)))
		}
	}
	return least(never, all...)
}

// isRight reports whether a table is right that has all its numbers.
func (d *day) isRight(table []int64) bool {
	many := len(d.runs)
	for s := range states(many) {
		number := table[s.place(many)]
		if !s.runs.has(s.last) && number != never {
			return false
		}
		if s.runs.has(s.last) && number > d.bound(table, s) {
			return false
		}
	}
	return true
}

// most returns how many runs there are at most in a set that has a run with a number below never.
func (d *day) most(table []int64) int {
	many := len(d.runs)
	most := 0
	for s := range states(many) {
		if table[s.place(many)] < never {
			most = max(most, s.runs.many())
		}
	}
	return most
}
