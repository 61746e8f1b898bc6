package run_test

import (
	"math/rand"
	"reflect"
	"slices"
	"testing"

	"tumblehome/api"
	"tumblehome/run"
)

func TestP6_1CheckDay(t *testing.T) {
	for i, x := range []struct {
		d api.RunDay
		e api.Errno
	}{
		{sample(), api.OK},
		{calm(1), api.OK},
		{calm(8), api.OK},
		{calm(9), api.ErrMany},
		{api.RunDay{}, api.ErrMany},
		{api.RunDay{Keep: rg(2, 1)}, api.ErrMany},
		{api.RunDay{Keep: rg(2, 1), Runs: make([]api.RunTest, 9)}, api.ErrMany},
		{api.RunDay{Runs: []api.RunTest{}}, api.ErrMany},
		{api.RunDay{Runs: make([]api.RunTest, 8)}, api.ErrArg},
		{changed(func(d *api.RunDay) { d.Keep = rg(0, 0) }), api.OK},
		{changed(func(d *api.RunDay) { d.Keep = rg(0, 1000) }), api.OK},
		{changed(func(d *api.RunDay) { d.Keep = rg(1000, 1000) }), api.OK},
		{changed(func(d *api.RunDay) { d.Runs[0].Minutes = 1 }), api.OK},
		{changed(func(d *api.RunDay) { d.Runs[0].Minutes = 1000 }), api.OK},
		{changed(func(d *api.RunDay) { d.Runs[1].Leaves = rg(0, 0) }), api.OK},
		{changed(func(d *api.RunDay) { d.Runs[1].Leaves = rg(0, 1000000) }), api.OK},
		{changed(func(d *api.RunDay) { d.Runs[1].Leaves = rg(1000000, 1000000) }), api.OK},
		{changed(func(d *api.RunDay) { d.Runs[2].Still = 1000000 }), api.OK},
		{changed(func(d *api.RunDay) { d.Runs[2].From, d.Runs[2].Until = 1000, 1000 }), api.OK},
		{changed(func(d *api.RunDay) { d.Runs[2].From, d.Runs[2].Until = 0, 0 }), api.OK},
	} {
		if e := run.CheckDay(x.d); e != x.e {
			t.Error(i, e, "not", x.e)
		}
	}
	for i, d := range badDays() {
		if e := run.CheckDay(d); e != errorOf(d) || e == api.OK {
			t.Error(i, d, e)
		}
	}
	for i, d := range days(20, 8) {
		if e := run.CheckDay(d); e != api.OK {
			t.Error(i, d, e)
		}
	}
}

// The error of the day comes before all others, which apply too.
func TestP6_1DayFirst(t *testing.T) {
	for i, d := range badDays() {
		want := errorOf(d)
		if n, e := run.Left(d, -1, 2000, -1); n != 0 || e != want {
			t.Error(i, n, e)
		}
		if n, e := run.Wait(d, -1, 9); n != 0 || e != want {
			t.Error(i, n, e)
		}
		for _, order := range [][]int{nil, {0}, {-1}, {0, 0}, make([]int, 10000)} {
			if l, e := run.Times(d, order); l != nil || e != want {
				t.Error(i, order, l, e)
			}
			if l, e := run.Play(d, order, []int64{-1}, []int64{-1, -1}, -1); l != nil || e != want {
				t.Error(i, order, l, e)
			}
		}
		if l, e := run.Best(d); l != nil || e != want {
			t.Error(i, l, e)
		}
		if l, e := run.Table(d); l != nil || e != want {
			t.Error(i, l, e)
		}
		for _, table := range [][]int64{nil, {-1}, make([]int64, 24)} {
			if n, e := run.CheckTable(d, table); n != 0 || e != want {
				t.Error(i, n, e)
			}
		}
	}
}

// lists are orders of up to three runs, and lists that are none, in one way or more.
func lists() [][]int {
	return [][]int{
		nil, {}, {0}, {1}, {2}, {1, 0}, {2, 1}, {0, 1, 2}, {2, 0, 1},
		{3}, {-1}, {0, 3}, {3, 0}, {low, 0}, {0, high}, {1 << 32}, {256, 0},
		{0, 0}, {1, 0, 1}, {2, 2, 2}, {0, 1, 1},
		{0, 0, 3}, {3, 3}, {-1, 0, 0}, {0, 0, -1}, {3, 0, 3},
		{0, 1, 2, 3}, {0, 1, 2, 0}, {0, 0, 0, 0}, {9, 9, 9, 9}, make([]int, 5000),
	}
}

func TestP6_1OrdersThen(t *testing.T) {
	for many := range 3 {
		d := calm(many + 1)
		for _, order := range lists() {
			want := errorOfOrder(d, order)
			if l, e := run.Times(d, order); e != want || e != api.OK && l != nil {
				t.Error(many, order, l, e, "not", want)
			}
			none := make([]int64, len(order)) // begins that are right just for the first run
			for _, begins := range [][]int64{none, nil, {-1}, {0, 1, 2}} {
				for _, keep := range []int64{0, 1001} {
					unlike := len(begins) != len(order)
					want := firstOf(want, when(unlike, api.ErrEqual), when(keep == 1001, api.ErrRange))
					l, e := run.Play(d, order, begins, none, keep)
					if want == api.OK {
						want = when(slices.Equal(begins, []int64{-1}) || len(order) > 1 && begins[1] == 0, api.ErrRange)
					}
					if e != want || e != api.OK && l != nil || e == api.OK && len(l) != len(order) {
						t.Error(many, order, begins, keep, l, e, "not", want)
					}
				}
			}
		}
	}
}

func TestP6_2Left(t *testing.T) {
	wide := changed(func(d *api.RunDay) { d.Keep = rg(0, 1000) })
	narrow := changed(func(d *api.RunDay) { d.Keep = rg(300, 700) })
	for i, x := range []struct {
		d                              api.RunDay
		energy, keep, minutes, energy2 int64
		e                              api.Errno
	}{
		{sample(), 100, 500, 0, 100, api.OK},
		{sample(), 100, 500, 1, 50, api.OK},
		{sample(), 100, 500, 3, 12, api.OK},
		{sample(), 100, 500, 7, 0, api.OK},
		{sample(), 100, 500, 1000, 0, api.OK},
		{sample(), 1, 500, 0, 1, api.OK},
		{sample(), 1, 500, 1, 0, api.OK},
		{sample(), 0, 500, 0, 0, api.OK},
		{sample(), 1000000, 500, 1, 500000, api.OK},
		{sample(), 1000001, 500, 1, 0, api.ErrRange},
		{sample(), -1, 500, 1, 0, api.ErrRange},
		{sample(), low, 500, 1, 0, api.ErrRange},
		{sample(), high, 500, 0, 0, api.ErrRange},
		{sample(), 100, 499, 1, 0, api.ErrRange},
		{sample(), 100, 501, 1, 0, api.ErrRange},
		{sample(), 100, 500, -1, 0, api.ErrRange},
		{sample(), 100, 500, 1001, 0, api.ErrRange},
		{sample(), 100, 500, high, 0, api.ErrRange},
		{sample(), -1, 0, -1, 0, api.ErrRange},
		{wide, 100, 0, 0, 100, api.OK},
		{wide, 100, 0, 1, 0, api.OK},
		{wide, 1000000, 1000, 1000, 1000000, api.OK},
		{wide, 1000, 999, 1, 999, api.OK},
		{wide, 1000, 999, 1000, 0, api.OK},
		{wide, 1000, 999, 999, 1, api.OK},
		{wide, 1000000, 999, 2, 998001, api.OK},
		{wide, 1000, 1001, 1, 0, api.ErrRange},
		{wide, 1000, -1, 1, 0, api.ErrRange},
		{wide, 1000, low, 1, 0, api.ErrRange},
		{narrow, 10, 300, 1, 3, api.OK},
		{narrow, 10, 700, 2, 4, api.OK},
		{narrow, 10, 299, 1, 0, api.ErrRange},
		{narrow, 10, 701, 1, 0, api.ErrRange},
	} {
		if n, e := run.Left(x.d, x.energy, x.keep, x.minutes); n != x.energy2 || e != x.e {
			t.Error(i, n, e)
		}
	}
	r := rand.New(rand.NewSource(2))
	for range 2000 {
		energy, keep, minutes := between(r, 0, 1000000), 1000-between(r, 0, 1000)*between(r, 0, 1)/(1+between(r, 0, 100)), between(r, 0, 1000)
		if n, e := run.Left(wide, energy, keep, minutes); n != leftOf(energy, keep, minutes) || e != api.OK {
			t.Fatal(energy, keep, minutes, n, e)
		}
	}
}

func TestP6_3Wait(t *testing.T) {
	keeps := func(keep, leaves, still int64) api.RunDay {
		return changed(func(d *api.RunDay) {
			d.Keep = rg(0, keep)
			d.Runs[0].Leaves, d.Runs[1].Still = rg(0, leaves), still
		})
	}
	for i, x := range []struct {
		d            api.RunDay
		before, next int
		want         int64
		e            api.Errno
	}{
		{sample(), 0, 0, 2, api.OK},
		{sample(), 0, 1, 4, api.OK},
		{sample(), 0, 2, 5, api.OK},
		{sample(), 1, 0, 0, api.OK},
		{sample(), 1, 1, 1, api.OK},
		{sample(), 2, 2, 7, api.OK},
		{sample(), 3, 0, 0, api.ErrRange},
		{sample(), 0, 3, 0, api.ErrRange},
		{sample(), -1, 0, 0, api.ErrRange},
		{sample(), 0, -1, 0, api.ErrRange},
		{sample(), low, high, 0, api.ErrRange},
		{sample(), 8, 0, 0, api.ErrRange},
		{keeps(1000, 5, 5), 0, 1, 0, api.OK},
		{keeps(1000, 6, 5), 0, 1, 0, api.ErrStill},
		{keeps(1000, 6, 5), 0, 3, 0, api.ErrRange},
		{keeps(1000, 0, 0), 0, 1, 0, api.OK},
		{keeps(1000, 1000000, 999999), 0, 1, 0, api.ErrStill},
		{keeps(1000, 1000000, 1000000), 0, 1, 0, api.OK},
		{keeps(999, 1000, 0), 0, 1, 1000, api.OK},
		{keeps(999, 1000, 1), 0, 1, 999, api.OK},
		{keeps(0, 1000000, 0), 0, 1, 1, api.OK},
		{keeps(0, 0, 0), 0, 1, 0, api.OK},
	} {
		if n, e := run.Wait(x.d, x.before, x.next); n != x.want || e != x.e {
			t.Error(i, n, e)
		}
	}
	slow := keeps(999, 1000000, 0)
	want, _ := waitOf(slow, 0, 1)
	if n, e := run.Wait(slow, 0, 1); n != want || want <= api.MaxRunTime || e != api.OK {
		t.Error(n, e, want) // a wait may be longer than a run
	}
	for _, d := range days(60, 8) {
		for i, row := range pairs(d) {
			for j, want := range row {
				n, e := run.Wait(d, i, j)
				if want >= 0 && (n != want || e != api.OK) || want < 0 && (n != 0 || e != api.ErrStill) {
					t.Fatal(d, i, j, n, e, want)
				}
			}
		}
	}
}

func TestP6_4Times(t *testing.T) {
	late := changed(func(d *api.RunDay) { d.Runs[2].From, d.Runs[2].Until = 7, 7 })
	endless := changed(func(d *api.RunDay) { d.Keep = rg(0, 1000) }) // just 1 0 has a wait
	both := changed(func(d *api.RunDay) { d.Keep, d.Runs[0].Minutes, d.Runs[1].Leaves = rg(0, 1000), 1000, rg(0, 0) })
	apart := changed(func(d *api.RunDay) { d.Runs[1].From, d.Runs[1].Until = 15, 15 })
	for i, x := range []struct {
		d     api.RunDay
		order []int
		want  []int64
		e     api.Errno
	}{
		{sample(), []int{1, 0}, []int64{0, 5}, api.OK},
		{sample(), []int{0, 1}, []int64{0, 14}, api.OK},
		{sample(), []int{2, 1}, nil, api.ErrLate},
		{sample(), []int{0, 1, 0}, nil, api.ErrHave},
		{sample(), []int{1, 2, 0}, []int64{0, 7, 32}, api.OK},
		{sample(), []int{1, 2, 3}, nil, api.ErrRange},
		{sample(), []int{2, 1, 3}, nil, api.ErrRange},
		{sample(), []int{0, 1, 2, 0}, nil, api.ErrMany},
		{sample(), nil, nil, api.OK},
		{sample(), []int{2}, []int64{0}, api.OK},
		{late, []int{2}, []int64{7}, api.OK},
		{late, []int{1, 2}, []int64{0, 7}, api.OK},
		{late, []int{0, 2}, nil, api.ErrLate},
		{apart, []int{0, 1}, []int64{0, 15}, api.OK}, // a minute after the least one
		{apart, []int{1, 0}, []int64{15, 20}, api.OK},
		{endless, []int{1, 0}, []int64{0, 5}, api.OK},
		{endless, []int{0, 1}, nil, api.ErrStill},
		{endless, []int{2, 0}, nil, api.ErrStill},
		{both, []int{1, 0}, []int64{0, 5}, api.OK},
		{both, []int{1, 0, 2}, nil, api.ErrStill},
		{both, []int{0, 1}, nil, api.ErrStill},
		{changed(func(d *api.RunDay) { d.Runs[1].Until = 14 }), []int{0, 1}, []int64{0, 14}, api.OK},
		{changed(func(d *api.RunDay) { d.Runs[1].Until = 13 }), []int{0, 1}, nil, api.ErrLate},
	} {
		if l, e := run.Times(x.d, x.order); !slices.Equal(l, x.want) || e != x.e {
			t.Error(i, l, e)
		}
	}
}

// Of a run that is late and one without a wait, the earlier one in the order decides.
func TestP6_4WhicheverFirst(t *testing.T) {
	d := calm(3)
	d.Keep = rg(1000, 1000)
	d.Runs[0].Minutes = 1000
	d.Runs[1].Until = 999
	d.Runs[1].Leaves = rg(0, 1)
	for _, x := range []struct {
		order []int
		e     api.Errno
	}{
		{[]int{0, 1, 2}, api.ErrLate},
		{[]int{1, 2, 0}, api.ErrStill},
		{[]int{1, 0, 2}, api.ErrStill},
		{[]int{2, 1, 0}, api.ErrStill},
		{[]int{2, 0, 1}, api.ErrLate},
		{[]int{0, 2, 1}, api.ErrLate},
		{[]int{0, 2}, api.OK},
	} {
		if l, e := run.Times(d, x.order); e != x.e || e != api.OK && l != nil {
			t.Error(x, l, e)
		}
	}
	d.Runs[1].From = 999 // its wait, and not its time, is what lacks
	d.Runs[2].Until = 0
	if _, e := run.Times(d, []int{1, 2}); e != api.ErrStill {
		t.Error(e)
	}
}

func TestP6_4TimesOfSamples(t *testing.T) {
	r := rand.New(rand.NewSource(4))
	errors := map[api.Errno]int{}
	for _, d := range days(60, 8) {
		waits := pairs(d)
		for range 10 {
			order := anyOrder(r, d)
			want, wantE := timesOf(d, waits, order)
			l, e := run.Times(d, order)
			if !slices.Equal(l, want) || e != wantE {
				t.Fatal(d, order, l, e, want, wantE)
			}
			errors[e]++
		}
	}
	if errors[api.OK] < 100 || errors[api.ErrStill] < 100 || errors[api.ErrLate] < 100 {
		t.Error("too few samples", errors)
	}
}

func TestP6_5Best(t *testing.T) {
	gate := calm(3) // 1 0 is over sooner than 0 1, but the last run is not
	gate.Keep = rg(500, 500)
	gate.Runs[0].Leaves = rg(0, 100)
	gate.Runs[2].From = 500
	soon := calm(3) // any two, but not three: the two that are over first
	for i := range soon.Runs {
		soon.Runs[i].Until = 5
		soon.Runs[i].Minutes = int64(5 - i)
	}
	soon.Runs[1].Minutes, soon.Runs[2].Minutes = 3, 4
	one := calm(2)
	one.Keep = rg(1000, 1000)
	one.Runs[0] = api.RunTest{Minutes: 2, Leaves: rg(1, 1)}
	one.Runs[1] = api.RunTest{Minutes: 1, Leaves: rg(1, 1)}
	for i, x := range []struct {
		d    api.RunDay
		want []int
	}{
		{sample(), []int{1, 2, 0}},
		{calm(1), []int{0}},
		{calm(8), []int{0, 1, 2, 3, 4, 5, 6, 7}},
		{gate, []int{0, 1, 2}},
		{soon, []int{1, 2}},
		{one, []int{1}},
	} {
		if l, e := run.Best(x.d); !slices.Equal(l, x.want) || e != api.OK {
			t.Error(i, l, e)
		}
	}
}

func TestP6_5BestOfSamples(t *testing.T) {
	for _, d := range slices.Concat(days(400, 5), days(10, 8), busy()) {
		want := slices.MinFunc(plansOf(d), better)
		if l, e := run.Best(d); !slices.Equal(l, want.order) || e != api.OK {
			t.Fatal(d, l, e, want)
		}
	}
}

func TestP6_6Table(t *testing.T) {
	want := []int64{
		never, never, never, // no runs
		10, never, never, // 0
		never, 5, never, // 1
		15, 19, never, // 0 1
		never, never, 20, // 2
		35, never, never, // 0 2
		never, never, 27, // 1 2
		42, never, never, // 0 1 2
	}
	if l, e := run.Table(sample()); !slices.Equal(l, want) || e != api.OK {
		t.Error(l, e)
	}
	if l, e := run.Table(calm(1)); !slices.Equal(l, []int64{never, 1}) || e != api.OK {
		t.Error(l, e)
	}
	if l, e := run.Table(calm(8)); len(l) != 2048 || l[2047] != 8 || l[2040] != 8 || l[2039] != 7 || l[2032] != never || e != api.OK {
		t.Error(l, e)
	}
	for _, d := range slices.Concat(days(400, 5), days(10, 8), busy()) {
		if l, e := run.Table(d); !slices.Equal(l, tableOf(d, plansOf(d))) || e != api.OK {
			t.Fatal(d, l, e)
		}
	}
}

func TestP6_7CheckTable(t *testing.T) {
	table, _ := run.Table(sample())
	with := func(at int, number int64) []int64 {
		l := slices.Clone(table)
		l[at] = number
		return l
	}
	for i, x := range []struct {
		table []int64
		want  int
		e     api.Errno
	}{
		{table, 3, api.OK},
		{with(21, 41), 3, api.OK},
		{with(21, 0), 3, api.OK},
		{with(21, 43), 0, api.ErrSum},
		{with(21, never), 0, api.ErrSum},
		{with(3, 9), 0, api.ErrSum}, // what follows from it is less then
		{with(3, 11), 0, api.ErrSum},
		{with(3, never), 0, api.ErrSum},
		{with(4, 5), 0, api.ErrSum}, // not in its set
		{with(4, never-1), 0, api.ErrSum},
		{with(0, 0), 0, api.ErrSum},
		{with(22, never-1), 3, api.OK},
		{with(17, 0), 0, api.ErrSum}, // 1 could be over at 11, behind 0 and 2
		{with(13, 0), 0, api.ErrSum}, // not in its set
		{with(17, -1), 0, api.ErrRange},
		{with(0, -1), 0, api.ErrRange},
		{with(0, never+1), 0, api.ErrRange},
		{with(23, never+1), 0, api.ErrRange},
		{with(23, high), 0, api.ErrRange},
		{with(23, low), 0, api.ErrRange},
		{append(with(3, 11), 0), 0, api.ErrEqual},
		{append(with(3, -1), 0), 0, api.ErrEqual},
		{table[:23], 0, api.ErrEqual},
		{with(3, -1)[:23], 0, api.ErrEqual},
		{nil, 0, api.ErrEqual},
		{make([]int64, 24), 0, api.ErrSum},
		{append(with(3, 11)[:23], -1), 0, api.ErrRange},
		{make([]int64, 100000), 0, api.ErrEqual},
	} {
		if n, e := run.CheckTable(sample(), slices.Clone(x.table)); n != x.want || e != x.e {
			t.Error(i, n, e)
		}
	}
}

// A right table may have numbers where there are no orders: then it returns more runs than there can be.
func TestP6_7CheckTableMore(t *testing.T) {
	d := calm(2)
	d.Keep = rg(1000, 1000)
	d.Runs[0].Leaves, d.Runs[1].Leaves = rg(1, 1), rg(1, 1) // neither follows the other one
	for _, x := range []struct {
		one, other int64
		want       int
	}{
		{never, never, 1},
		{never - 1, never, 2},
		{never, 0, 2},
	} {
		if n, e := run.CheckTable(d, []int64{never, never, 1, never, never, 1, x.one, x.other}); n != x.want || e != api.OK {
			t.Error(x, n, e)
		}
	}
}

// loose is a right table whose numbers are at most what follows, in any way.
func loose(r *rand.Rand, d api.RunDay) []int64 {
	n := len(d.Runs)
	table := slices.Repeat([]int64{never}, n<<n)
	for at := range table {
		if at/n>>(at%n)&1 == 0 {
			continue
		}
		bound := boundOf(d, table, at/n, at%n)
		table[at] = bound
		switch r.Intn(12) {
		case 0:
			table[at] = between(r, 0, bound)
		case 1:
			table[at] = max(0, bound-between(r, 0, 5))
		}
	}
	return table
}

func TestP6_7CheckTableOfSamples(t *testing.T) {
	r := rand.New(rand.NewSource(7))
	right, lost := 0, 0
	for _, d := range append(days(300, 5), days(10, 8)...) {
		for range 4 {
			table := loose(r, d)
			if n, e := run.CheckTable(d, table); n != mostOf(d, table) || e != api.OK {
				t.Fatal(d, table, n, e)
			}
			at := r.Intn(len(table))
			table[at] = []int64{0, 1, never - 1, never, table[at] - 1, table[at] + 1, between(r, 0, 100)}[r.Intn(7)]
			want, wantE := 0, api.ErrSum
			switch {
			case outside(table[at], 0, never):
				wantE = api.ErrRange
			case rightOf(d, table):
				want, wantE = mostOf(d, table), api.OK
				right++
			default:
				lost++
			}
			if n, e := run.CheckTable(d, table); n != want || e != wantE {
				t.Fatal(d, table, at, n, e, want, wantE)
			}
		}
	}
	if right < 100 || lost < 100 {
		t.Error("too few samples", right, lost)
	}
}

// Each number that is not RunNever is as great as can be: one more is not right.
func TestP6_7NoGreaterNumber(t *testing.T) {
	for _, d := range append(days(30, 4), days(1, 6)...) {
		table, _ := run.Table(d)
		for at, number := range table {
			if number == never {
				continue
			}
			table[at]++
			if n, e := run.CheckTable(d, table); n != 0 || e != api.ErrSum {
				t.Fatal(d, at, n, e)
			}
			table[at]--
		}
	}
}

func TestP6_8Play(t *testing.T) {
	wide := changed(func(d *api.RunDay) { d.Keep = rg(0, 1000) })
	for i, x := range []struct {
		d              api.RunDay
		order          []int
		begins, leaves []int64
		keep           int64
		want           []int64
		e              api.Errno
	}{
		{sample(), []int{1, 2}, []int64{0, 10}, []int64{2, 100}, 500, []int64{0, 0}, api.OK},
		{sample(), []int{1, 2}, []int64{0, 5}, []int64{2, 100}, 500, []int64{0, 2}, api.OK},
		{sample(), []int{1, 2}, []int64{0, 6}, []int64{2, 100}, 500, []int64{0, 1}, api.OK},
		{sample(), []int{1, 2}, []int64{0, 4}, []int64{2, 100}, 500, nil, api.ErrRange},
		{sample(), []int{2, 0, 1}, []int64{1000, 1021, 1032}, []int64{100, 8, 2}, 500, []int64{0, 50, 4}, api.OK}, // neither From nor Until counts
		{sample(), []int{0, 1}, []int64{3, 14}, []int64{16, 2}, 500, []int64{0, 8}, api.OK},
		{sample(), []int{0, 1}, []int64{3, 14}, []int64{8, 2}, 500, []int64{0, 4}, api.OK},
		{sample(), []int{0, 1}, []int64{3, 14}, []int64{7, 2}, 500, nil, api.ErrRange},
		{sample(), []int{0, 1}, []int64{3, 14}, []int64{17, 2}, 500, nil, api.ErrRange},
		{sample(), []int{0, 1}, []int64{3, 14}, []int64{8, 1}, 500, nil, api.ErrRange},
		{sample(), []int{0, 1}, []int64{3, 14}, []int64{8, 3}, 500, nil, api.ErrRange},
		{sample(), []int{0, 1}, []int64{3, 14}, []int64{8, 2}, 499, nil, api.ErrRange},
		{sample(), []int{0, 1}, []int64{3, 14}, []int64{8, 2}, 501, nil, api.ErrRange},
		{sample(), []int{0, 1}, []int64{-1, 14}, []int64{8, 2}, 500, nil, api.ErrRange},
		{sample(), []int{0, 1}, []int64{low, 14}, []int64{8, 2}, 500, nil, api.ErrRange},
		{sample(), []int{0, 1}, []int64{high, low}, []int64{8, 2}, 500, nil, api.ErrRange},
		{sample(), []int{0, 1}, []int64{999990, 1000000}, []int64{8, 2}, 500, []int64{0, 8}, api.OK},
		{sample(), []int{0, 1}, []int64{999991, 1000001}, []int64{8, 2}, 500, nil, api.ErrRange},
		{sample(), []int{0}, []int64{1000000}, []int64{8}, 500, []int64{0}, api.OK},
		{sample(), []int{0}, []int64{1000001}, []int64{8}, 500, nil, api.ErrRange},
		{sample(), []int{0, 1}, []int64{1000000, 1000000}, []int64{8, 2}, 500, nil, api.ErrRange},
		{sample(), nil, nil, nil, 500, nil, api.OK},
		{sample(), nil, nil, nil, 501, nil, api.ErrRange},
		{sample(), nil, []int64{0}, nil, 501, nil, api.ErrEqual},
		{sample(), nil, nil, []int64{8}, 500, nil, api.ErrEqual},
		{sample(), []int{0, 1}, []int64{3}, []int64{8, 2}, 500, nil, api.ErrEqual},
		{sample(), []int{0, 1}, []int64{3, 14}, []int64{8}, 500, nil, api.ErrEqual},
		{sample(), []int{0, 1}, []int64{-3}, []int64{-8}, -500, nil, api.ErrEqual},
		{sample(), []int{0, 1}, []int64{3, 14, 100}, []int64{8, 2}, 500, nil, api.ErrEqual},
		{sample(), []int{0, 1}, []int64{3, 14}, []int64{8, 2, 100}, 500, nil, api.ErrEqual},
		{sample(), []int{0, 3}, nil, nil, 500, nil, api.ErrRange},
		{sample(), []int{0, 0}, nil, nil, 500, nil, api.ErrHave},
		{sample(), []int{0, 0, 0, 0}, nil, nil, 500, nil, api.ErrMany},
		{wide, []int{0, 1}, []int64{0, 1000000}, []int64{16, 2}, 1000, []int64{0, 16}, api.OK},
		{wide, []int{0, 1}, []int64{0, 10}, []int64{16, 2}, 0, []int64{0, 16}, api.OK},
		{wide, []int{0, 1}, []int64{0, 11}, []int64{16, 2}, 0, []int64{0, 0}, api.OK},
		{wide, []int{2, 1}, []int64{0, 23}, []int64{100, 2}, 999, []int64{0, 97}, api.OK},
	} {
		if l, e := run.Play(x.d, x.order, x.begins, x.leaves, x.keep); !slices.Equal(l, x.want) || e != x.e {
			t.Error(i, l, e)
		}
	}
}

func TestP6_8PlayOfSamples(t *testing.T) {
	r := rand.New(rand.NewSource(8))
	for _, d := range days(60, 8) {
		order, keep := anyOrder(r, d), between(r, d.Keep.Lo, d.Keep.Hi)
		var begins, leaves, want []int64
		over := int64(0)
		for i, n := range order {
			gap := between(r, 0, []int64{0, 3, 50, 2000}[r.Intn(4)])
			begins = append(begins, over+gap)
			leaves = append(leaves, between(r, d.Runs[n].Leaves.Lo, d.Runs[n].Leaves.Hi))
			want = append(want, 0)
			if i > 0 {
				want[i] = leftOf(leaves[i-1], keep, gap)
			}
			over = begins[i] + d.Runs[n].Minutes
		}
		if l, e := run.Play(d, order, begins, leaves, keep); !slices.Equal(l, want) || e != api.OK {
			t.Fatal(d, order, begins, leaves, keep, l, e, want)
		}
	}
}

// No argument is changed, and results share no memory with one, nor with each other. (R5, R10)
func TestR5Memory(t *testing.T) {
	d := sample()
	order, begins, leaves := []int{1, 2, 0}, []int64{0, 7, 40}, []int64{2, 100, 9}
	table, _ := run.Table(d)
	calls := func() []any {
		times, _ := run.Times(d, order)
		best, _ := run.Best(d)
		again, _ := run.Table(d)
		most, _ := run.CheckTable(d, table)
		energies, _ := run.Play(d, order, begins, leaves, 500)
		return []any{times, best, again, most, energies}
	}
	one, want := calls(), calls()
	for _, x := range one {
		switch l := x.(type) {
		case []int:
			clear(l)
		case []int64:
			clear(l)
		}
	}
	if again := calls(); !reflect.DeepEqual(again, want) {
		t.Error(again, want)
	}
	if !reflect.DeepEqual(d, sample()) || !slices.Equal(order, []int{1, 2, 0}) || !slices.Equal(begins, []int64{0, 7, 40}) || !slices.Equal(leaves, []int64{2, 100, 9}) || !slices.Equal(table, want[2].([]int64)) {
		t.Error("an argument has changed")
	}
}

// The examples of the chapter's table, as they stand there.
func TestP6_Examples(t *testing.T) {
	d := sample()
	best, e := run.Best(d)
	if !slices.Equal(best, []int{1, 2, 0}) || e != api.OK {
		t.Error(best, e)
	}
	if times, e := run.Times(d, best); !slices.Equal(times, []int64{0, 7, 32}) || e != api.OK {
		t.Error(times, e)
	}
	if l, e := run.Play(d, []int{1, 2}, []int64{0, 10}, []int64{2, 100}, 500); !slices.Equal(l, []int64{0, 0}) || e != api.OK {
		t.Error(l, e)
	}
}
