package run_test

import (
	"math"
	"math/rand"
	"slices"

	"tumblehome/api"
)

// What the chapter defines, written down once more as plainly as can be: by counting minutes, and by trying all orders.

const (
	low   = math.MinInt64
	high  = math.MaxInt64
	never = 1 << 20
)

func rg(lo, hi int64) api.Range { return api.Range{Lo: lo, Hi: hi} }

// sample is the day d of the examples.
func sample() api.RunDay {
	return api.RunDay{Keep: rg(500, 500), Runs: []api.RunTest{
		{Minutes: 10, Leaves: rg(8, 16), Still: 4, From: 0, Until: 100},
		{Minutes: 5, Leaves: rg(2, 2), Still: 1, From: 0, Until: 20},
		{Minutes: 20, Leaves: rg(100, 100), Still: 0, From: 0, Until: 12},
	}}
}

// calm is a day of so many runs of a minute each that leave no waves, and may begin at any time.
func calm(many int) api.RunDay {
	d := api.RunDay{Keep: rg(0, 1000)}
	for range many {
		d.Runs = append(d.Runs, api.RunTest{Minutes: 1, Until: 1000})
	}
	return d
}

// changed is the sample after a change.
func changed(change func(d *api.RunDay)) api.RunDay {
	d := sample()
	change(&d)
	return d
}

// cloned is a day that shares no memory.
func cloned(d api.RunDay) api.RunDay {
	d.Runs = slices.Clone(d.Runs)
	return d
}

// outside tells whether a number is not from the least to the most.
func outside(n, least, most int64) bool { return n < least || n > most }

// wrong tells whether a range is not valid, or has an end that is not from 0 to the most.
func wrong(r api.Range, most int64) bool {
	return outside(r.Lo, 0, most) || outside(r.Hi, 0, most) || r.Lo > r.Hi
}

// errorOf is the error of a day.
func errorOf(d api.RunDay) api.Errno {
	if len(d.Runs) < 1 || len(d.Runs) > 8 {
		return api.ErrMany
	}
	bad := wrong(d.Keep, 1000)
	for _, r := range d.Runs {
		bad = bad || outside(r.Minutes, 1, 1000) || wrong(r.Leaves, 1000000) || outside(r.Still, 0, 1000000) || wrong(rg(r.From, r.Until), 1000)
	}
	return when(bad, api.ErrArg)
}

// errorOfOrder is the error of a day and an order.
func errorOfOrder(d api.RunDay, order []int) api.Errno {
	var strange, twice bool
	for i, run := range order {
		strange = strange || run < 0 || run >= len(d.Runs)
		twice = twice || slices.Contains(order[:i], run)
	}
	return firstOf(errorOf(d), when(len(order) > len(d.Runs), api.ErrMany), when(strange, api.ErrRange), when(twice, api.ErrHave))
}

// firstOf is the first one that is an error.
func firstOf(all ...api.Errno) api.Errno {
	for _, e := range all {
		if e != api.OK {
			return e
		}
	}
	return api.OK
}

// when is an error if something is so.
func when(so bool, e api.Errno) api.Errno {
	if so {
		return e
	}
	return api.OK
}

// leftOf is the energy of waves after some minutes.
func leftOf(energy, keep, minutes int64) int64 {
	for range minutes {
		energy = energy * keep / 1000
	}
	return energy
}

// waitOf is a wait, if there is one. Waves that keep less than all get less each minute.
func waitOf(d api.RunDay, before, next int) (int64, bool) {
	energy, still := d.Runs[before].Leaves.Hi, d.Runs[next].Still
	if d.Keep.Hi == 1000 {
		return 0, energy <= still
	}
	minutes := int64(0)
	for energy > still {
		energy = energy * d.Keep.Hi / 1000
		minutes++
	}
	return minutes, true
}

// pairs are the waits of a day, and -1 where there is none.
func pairs(d api.RunDay) [][]int64 {
	out := make([][]int64, len(d.Runs))
	for i := range d.Runs {
		for j := range d.Runs {
			minutes, ok := waitOf(d, i, j)
			if !ok {
				minutes = -1
			}
			out[i] = append(out[i], minutes)
		}
	}
	return out
}

// timesOf are the minutes at which the runs of an order begin, by the waits of its day.
func timesOf(d api.RunDay, waits [][]int64, order []int) ([]int64, api.Errno) {
	var out []int64
	for i, run := range order {
		begin := d.Runs[run].From
		if i > 0 {
			before := order[i-1]
			if waits[before][run] < 0 {
				return nil, api.ErrStill
			}
			begin = max(begin, out[i-1]+d.Runs[before].Minutes+waits[before][run])
		}
		if begin > d.Runs[run].Until {
			return nil, api.ErrLate
		}
		out = append(out, begin)
	}
	return out, api.OK
}

// plan is an order that can be kept, and the minute at which its last run is over.
type plan struct {
	order []int
	over  int64
}

// plansOf are all orders that can be kept, but the one without runs. As the beginnings of an order that can be kept can be, too, they grow run by run.
func plansOf(d api.RunDay) []plan {
	waits := pairs(d)
	plans := []plan{{}}
	for i := 0; i < len(plans); i++ {
		for run, r := range d.Runs {
			if slices.Contains(plans[i].order, run) {
				continue
			}
			order := append(slices.Clone(plans[i].order), run)
			if times, e := timesOf(d, waits, order); e == api.OK {
				plans = append(plans, plan{order, times[len(times)-1] + r.Minutes})
			}
		}
	}
	return plans[1:]
}

// better compares plans: the one that comes first is the better one.
func better(a, b plan) int {
	switch {
	case len(a.order) != len(b.order):
		return len(b.order) - len(a.order)
	case a.over != b.over:
		return int(a.over - b.over)
	}
	return slices.Compare(a.order, b.order)
}

// tableOf is the table of times, by all orders that can be kept.
func tableOf(d api.RunDay, plans []plan) []int64 {
	n := len(d.Runs)
	table := slices.Repeat([]int64{never}, n<<n)
	for _, p := range plans {
		set := 0
		for _, run := range p.order {
			set |= 1 << run
		}
		at := set*n + p.order[len(p.order)-1]
		table[at] = min(table[at], p.over)
	}
	return table
}

// boundOf is the greatest number that is right in a table for a set and a run in it.
func boundOf(d api.RunDay, table []int64, set, i int) int64 {
	n := len(d.Runs)
	r := d.Runs[i]
	if set == 1<<i {
		return r.From + r.Minutes
	}
	bound := int64(never)
	for k := range n {
		wait, ok := waitOf(d, k, i)
		if k == i || set>>k&1 == 0 || !ok {
			continue
		}
		t := table[(set-1<<i)*n+k]
		if begin := max(r.From, t+wait); t < never && begin <= r.Until {
			bound = min(bound, begin+r.Minutes)
		}
	}
	return bound
}

// rightOf tells whether a table with all its numbers is right.
func rightOf(d api.RunDay, table []int64) bool {
	n := len(d.Runs)
	for set := range 1 << n {
		for i := range n {
			number := table[set*n+i]
			if set>>i&1 == 0 && number != never || set>>i&1 == 1 && number > boundOf(d, table, set, i) {
				return false
			}
		}
	}
	return true
}

// mostOf is what a right table says: how many runs there are at most.
func mostOf(d api.RunDay, table []int64) int {
	n, most := len(d.Runs), 0
	for at, number := range table {
		many := 0
		for i := range n {
			many += at / n >> i & 1
		}
		if number < never {
			most = max(most, many)
		}
	}
	return most
}

// between is a random number from the least to the most.
func between(r *rand.Rand, least, most int64) int64 { return least + r.Int63n(most-least+1) }

// within is a random range from the least to the most.
func within(r *rand.Rand, least, most int64) api.Range {
	a, b := between(r, least, most), between(r, least, most)
	return rg(min(a, b), max(a, b))
}

// anyDay is a random day of so many runs. Its times are short ones, so that some orders can be kept, and some not.
func anyDay(r *rand.Rand, many int) api.RunDay {
	keeps := []api.Range{rg(0, 0), rg(0, 1000), rg(1000, 1000), within(r, 0, 1000), within(r, 0, 700), within(r, 900, 999)}
	waves := []int64{1, 10, 100, 1000000}[r.Intn(4)]
	long := []int64{5, 20, 200, 1000}[r.Intn(4)]
	d := api.RunDay{Keep: keeps[r.Intn(len(keeps))]}
	for range many {
		day := within(r, 0, long)
		if r.Intn(3) == 0 {
			day.Lo = 0
		}
		d.Runs = append(d.Runs, api.RunTest{
			Minutes: between(r, 1, long/4+1),
			Leaves:  within(r, 0, waves),
			Still:   between(r, 0, waves),
			From:    day.Lo,
			Until:   day.Hi,
		})
	}
	return d
}

// days are random days, always the same ones, of 1 to most runs, some times over.
func days(times, most int) []api.RunDay {
	r := rand.New(rand.NewSource(1872))
	var out []api.RunDay
	for range times {
		for many := range most {
			out = append(out, anyDay(r, many+1))
		}
	}
	return out
}

// busy are random days, always the same ones, of all runs that a day can have, of which nearly all orders can be kept: they differ in when they are over.
func busy() []api.RunDay {
	r := rand.New(rand.NewSource(1879))
	var out []api.RunDay
	for _, until := range []int64{300, 600, 1000} {
		d := api.RunDay{Keep: within(r, 0, 900)}
		for range api.MaxRuns {
			d.Runs = append(d.Runs, api.RunTest{Minutes: between(r, 1, 30), Leaves: within(r, 0, 1000), Still: between(r, 0, 100), From: between(r, 0, until/3), Until: until})
		}
		out = append(out, d)
	}
	return out
}

// anyOrder is a random order of a day.
func anyOrder(r *rand.Rand, d api.RunDay) []int {
	return r.Perm(len(d.Runs))[:r.Intn(len(d.Runs)+1)]
}

// badDays are days that are not valid in one way or more.
func badDays() []api.RunDay {
	out := []api.RunDay{
		{}, {Keep: rg(500, 500)}, {Keep: rg(5, 4)}, {Runs: make([]api.RunTest, 9)}, {Keep: rg(-1, 0), Runs: make([]api.RunTest, 9)}, {Runs: make([]api.RunTest, 1)},
		calm(9), calm(5000),
	}
	for _, keep := range []api.Range{rg(501, 500), rg(-1, 500), rg(0, 1001), rg(-2, -1), rg(1001, 1001), rg(low, high), rg(high, low)} {
		out = append(out, changed(func(d *api.RunDay) { d.Keep = keep }))
	}
	for run := range 3 {
		for _, change := range []func(r *api.RunTest){
			func(r *api.RunTest) { r.Minutes = 0 },
			func(r *api.RunTest) { r.Minutes = low },
			func(r *api.RunTest) { r.Minutes = 1001 },
			func(r *api.RunTest) { r.Minutes = high },
			func(r *api.RunTest) { r.Leaves = rg(3, 2) },
			func(r *api.RunTest) { r.Leaves = rg(-1, 2) },
			func(r *api.RunTest) { r.Leaves = rg(2, 1000001) },
			func(r *api.RunTest) { r.Leaves = rg(low, high) },
			func(r *api.RunTest) { r.Leaves = rg(-2, -1) },
			func(r *api.RunTest) { r.Still = -1 },
			func(r *api.RunTest) { r.Still = 1000001 },
			func(r *api.RunTest) { r.Still = high },
			func(r *api.RunTest) { r.From = r.Until + 1 },
			func(r *api.RunTest) { r.From = -1 },
			func(r *api.RunTest) { r.Until = 1001 },
			func(r *api.RunTest) { r.From, r.Until = 1001, 1001 },
			func(r *api.RunTest) { r.From, r.Until = low, high },
			func(r *api.RunTest) { r.From, r.Until = -1, -1 },
		} {
			out = append(out, changed(func(d *api.RunDay) { change(&d.Runs[run]) }))
		}
	}
	return out
}
