package run

import (
	"iter"
	"slices"

	"tumblehome/api"
)

// over returns the minute at which the run is over if it begins at a minute, or never if it may not begin any more.
func (r test) over(begin int64) int64 {
	if begin > r.Until {
		return never
	}
	return begin + r.Minutes
}

// day is a day that is checked: its runs, and the waits between them.
type day struct {
	runs  []test
	waits waits
}

// dayOf takes over a day that is checked.
func dayOf(d api.RunDay) *day {
	checked := &day{waits: waitsOf(d)}
	for _, r := range d.Runs {
		checked.runs = append(checked.runs, test{r})
	}
	return checked
}

// first returns the minute at which a run begins if no other one is before it.
func (d *day) first(run int) int64 { return d.runs[run].From }

// behind is the place behind a run that is over at a minute.
type behind struct {
	*day
	run  int
	over int64
}

// begin returns the minute at which another run begins there at the earliest.
func (b behind) begin(next int) int64 {
	return max(b.runs[next].From, b.over+b.waits[b.run][next])
}

// times returns the minutes at which the runs of an order begin at the earliest.
func (d *day) times(order []int) ([]int64, api.Errno) {
	times := make([]int64, len(order))
	begin := d.first
	for i, run := range order {
		times[i] = begin(run)
		over := d.runs[run].over(times[i])
		switch {
		case times[i] >= never: // no order reaches so far but by a wait without an end
			return nil, api.ErrStill
		case over == never:
			return nil, api.ErrLate
		}
		begin = behind{d, run, over}.begin
	}
	return times, api.OK
}

// orders yields the orders that can be kept, in lexicographic order, each with the minute at which its last run is over. What is yielded changes when the next one is.
func (d *day) orders() iter.Seq2[[]int, int64] {
	return func(yield func([]int, int64) bool) {
		var grow func(order []int, begin func(run int) int64) bool
		grow = func(order []int, begin func(run int) int64) bool {
			for run, r := range d.runs {
				over := r.over(begin(run))
				if over == never || slices.Contains(order, run) {
					continue
				}
				longer := append(order, run)
				if !yield(longer, over) || !grow(longer, behind{d, run, over}.begin) {
					return false
				}
			}
			return true
		}
		grow(make([]int, 0, len(d.runs)), d.first)
	}
}

// best returns the best order. What it has to reach is known from the states of all orders; the first order that does is sought.
func (d *day) best() []int {
	var most int
	var soonest int64
	for round := range d.rounds() {
		most++
		soonest = never
		for _, over := range round {
			soonest = least(soonest, over)
		}
	}
	best := make([]int, most)
search:
	for order, over := range d.orders() {
		if len(order) == most && over == soonest {
			copy(best, order)
			break search
		}
	}
	return best
}
