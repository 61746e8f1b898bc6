package run_test

import (
	"math/rand"
	"slices"
	"testing"

	"tumblehome/api"
	"tumblehome/run"
)

// Runs that begin as Times returns, or later, whatever waves are left and kept.
func TestP6_9Still(t *testing.T) {
	r := rand.New(rand.NewSource(9))
	many := 0
	for _, d := range days(200, 8) {
		for range 10 {
			order := anyOrder(r, d)
			times, e := run.Times(d, order)
			if e != api.OK {
				continue
			}
			slack := r.Int63n(2) * 5
			var begins, leaves []int64
			for i, n := range order {
				begin := times[i]
				if i > 0 {
					before := order[i-1]
					wait, e := run.Wait(d, before, n)
					if e != api.OK {
						t.Fatal(d, order, e)
					}
					begin = max(begin, begins[i-1]+d.Runs[before].Minutes+wait)
				}
				begins = append(begins, begin+between(r, 0, slack))
				leaves = append(leaves, between(r, d.Runs[n].Leaves.Lo, d.Runs[n].Leaves.Hi))
				if r.Intn(2) == 0 {
					leaves[i] = d.Runs[n].Leaves.Hi
				}
			}
			for _, keep := range []int64{d.Keep.Hi, d.Keep.Lo, between(r, d.Keep.Lo, d.Keep.Hi)} {
				energies, e := run.Play(d, order, begins, leaves, keep)
				if e != api.OK {
					t.Fatal(d, order, begins, leaves, keep, e)
				}
				for i, n := range order {
					if energies[i] > d.Runs[n].Still {
						t.Fatal(d, order, begins, leaves, keep, energies)
					}
				}
				many += len(order)
			}
		}
	}
	if many < 1000 {
		t.Error("too few samples", many)
	}
}

// A minute before the wait is over, the water may not be still.
func TestP6_9NoSooner(t *testing.T) {
	for _, d := range days(200, 4) {
		for before := range d.Runs {
			for next := range d.Runs {
				wait, e := run.Wait(d, before, next)
				if e != api.OK || wait == 0 || before == next {
					continue
				}
				begins := []int64{0, d.Runs[before].Minutes + wait - 1}
				leaves := []int64{d.Runs[before].Leaves.Hi, d.Runs[next].Leaves.Lo}
				if l, e := run.Play(d, []int{before, next}, begins, leaves, d.Keep.Hi); e != api.OK || l[1] <= d.Runs[next].Still {
					t.Fatal(d, before, next, l, e)
				}
			}
		}
	}
}

func TestP6_10Most(t *testing.T) {
	r := rand.New(rand.NewSource(10))
	for _, d := range slices.Concat(days(300, 5), days(10, 8), busy()) {
		best, _ := run.Best(d)
		table, _ := run.Table(d)
		if n, e := run.CheckTable(d, table); n != len(best) || e != api.OK {
			t.Fatal(d, best, n, e)
		}
		for range 3 {
			if n, e := run.CheckTable(d, loose(r, d)); n < len(best) || e != api.OK {
				t.Fatal(d, best, n, e)
			}
		}
		times, e := run.Times(d, best)
		if e != api.OK {
			t.Fatal(d, best, e)
		}
		soonest := int64(never)
		for at, number := range table {
			set := at / len(d.Runs)
			in := 0
			for i := range d.Runs {
				in += set >> i & 1
			}
			if in == len(best) {
				soonest = min(soonest, number)
			}
		}
		last := len(best) - 1
		if times[last]+d.Runs[best[last]].Minutes != soonest {
			t.Fatal(d, best, times, soonest)
		}
		for range 20 {
			order := anyOrder(r, d)
			if _, e := run.Times(d, order); e == api.OK && len(order) > len(best) {
				t.Fatal(d, best, order)
			}
		}
	}
}

func TestP6_11Earlier(t *testing.T) {
	d := calm(3)
	d.Keep = rg(900, 900)
	d.Runs[0].Leaves = rg(100, 100)
	d.Runs[1].Still = 100
	d.Runs[2].Until = 5
	if l, e := run.Times(d, []int{0, 1, 2}); !slices.Equal(l, []int64{0, 1, 2}) || e != api.OK {
		t.Error(l, e)
	}
	if l, e := run.Times(d, []int{0, 2}); l != nil || e != api.ErrLate { // the wait is longer without the run between them
		t.Error(l, e)
	}
	r := rand.New(rand.NewSource(11))
	for _, d := range days(200, 8) {
		for range 10 {
			order := anyOrder(r, d)
			times, e := run.Times(d, order)
			if e != api.OK {
				continue
			}
			for i := range order {
				if l, e := run.Times(d, order[:i]); !slices.Equal(l, times[:i]) || e != api.OK {
					t.Fatal(d, order, times, l, e)
				}
			}
		}
	}
}

// stiller is a day with a lesser Keep, lesser Leaves, a greater Still, a greater Until, or more of these.
func stiller(r *rand.Rand, d api.RunDay) api.RunDay {
	d = cloned(d)
	lesser := func(x api.Range) api.Range {
		x.Hi = between(r, x.Lo, x.Hi)
		x.Lo = between(r, 0, x.Lo)
		return x
	}
	which := 1 + r.Intn(15)
	if which&1 > 0 {
		d.Keep = lesser(d.Keep)
	}
	for i := range d.Runs {
		if which&2 > 0 {
			d.Runs[i].Leaves = lesser(d.Runs[i].Leaves)
		}
		if which&4 > 0 {
			d.Runs[i].Still += between(r, 0, min(20, 1000000-d.Runs[i].Still))
		}
		if which&8 > 0 {
			d.Runs[i].Until += between(r, 0, min(20, 1000-d.Runs[i].Until))
		}
	}
	return d
}

func TestP6_12Stiller(t *testing.T) {
	r := rand.New(rand.NewSource(12))
	for _, d := range days(200, 7) {
		calmer := stiller(r, d)
		for i := range d.Runs {
			for j := range d.Runs {
				a, e := run.Wait(d, i, j)
				if b, f := run.Wait(calmer, i, j); e == api.OK && (b > a || f != api.OK) {
					t.Fatal(d, calmer, i, j, a, b, f)
				}
			}
		}
		for range 20 {
			order := anyOrder(r, d)
			a, e := run.Times(d, order)
			b, f := run.Times(calmer, order)
			if e != api.OK {
				continue
			}
			if f != api.OK {
				t.Fatal(d, calmer, order, f)
			}
			for i := range order {
				if b[i] > a[i] {
					t.Fatal(d, calmer, order, a, b)
				}
			}
		}
		a, _ := run.Best(d)
		if b, e := run.Best(calmer); len(b) < len(a) || e != api.OK {
			t.Fatal(d, calmer, a, b, e)
		}
	}
}
