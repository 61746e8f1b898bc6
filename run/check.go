package run

import (
	"cmp"

	"tumblehome/api"
)

// test is a run as it is checked, and used.
type test struct {
	api.RunTest
}

// isValid reports whether a day can have the run.
func (r test) isValid() bool {
	return areFrom(1, api.MaxRunTime, r.Minutes) &&
		isRange(r.Leaves, api.MaxRunWaves) &&
		areFrom(0, api.MaxRunWaves, r.Still) &&
		isRange(api.Range{Lo: r.From, Hi: r.Until}, api.MaxRunTime)
}

// areFrom reports whether all are from the least to the most.
func areFrom[T cmp.Ordered](least, most T, all ...T) bool {
	for _, n := range all {
		if n < least || n > most {
			return false
		}
	}
	return true
}

// areRuns reports whether all are runs of a day.
func areRuns(d api.RunDay, all ...int) bool { return areFrom(0, len(d.Runs)-1, all...) }

// isRange reports whether a range is valid, and has ends from 0 to the most.
func isRange(r api.Range, most int64) bool {
	return areFrom(0, most, r.Lo, r.Hi) && r.Lo <= r.Hi
}

// isIn reports whether a range contains a number.
func isIn(r api.Range, n int64) bool { return areFrom(r.Lo, r.Hi, n) }

// least returns the least one of all.
func least[T cmp.Ordered](first T, others ...T) T {
	for _, other := range others {
		first = min(first, other)
	}
	return first
}
