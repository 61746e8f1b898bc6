package run

import (
	"iter"

	"tumblehome/api"
)

// whole is of how many thousandths everything is made.
const whole = 1000

// never is a wait without an end, and the minute at which nothing is over: far behind each minute in which a run may begin, also with a wait or a run on top of it.
const never = api.RunNever

// waves yields minutes, and the energy of waves after so many of them, until it does not change any more.
func waves(energy, keep int64) iter.Seq2[int64, int64] {
	return func(yield func(int64, int64) bool) {
		now := energy
		for minute := int64(0); yield(minute, now); minute++ {
			next := now * keep / whole
			if next == now {
				return
			}
			now = next
		}
	}
}

// left returns the energy of waves after some minutes.
func left(energy, keep, minutes int64) int64 {
	last := energy
	for minute, now := range waves(energy, keep) {
		last = now
		if minute == minutes {
			break
		}
	}
	return last
}

// wait returns the wait from a run to another one, or never.
func wait(d api.RunDay, before, next int) int64 {
	still := d.Runs[next].Still
	for minute, energy := range waves(d.Runs[before].Leaves.Hi, d.Keep.Hi) {
		if energy <= still {
			return minute
		}
	}
	return never
}

// waits are the waits from each run to each run.
type waits [api.MaxRuns][api.MaxRuns]int64

// waitsOf returns the waits of a day.
func waitsOf(d api.RunDay) waits {
	var all waits
	for before := range d.Runs {
		for next := range d.Runs {
			all[before][next] = wait(d, before, next)
		}
	}
	return all
}
