package box_test

import (
	"math"
	"math/big"
	"math/rand"
	"slices"

	"tumblehome/api"
)

// What the chapter defines, written down once more as plainly as can be: with fractions of any size, and by trying all true hulls.

const (
	low  = math.MinInt64
	high = math.MaxInt64
)

// kinds are what can be asked.
var kinds = []int{api.BoxAlong, api.BoxAbove, api.BoxMeta}

func rg(lo, hi int64) api.Range { return api.Range{Lo: lo, Hi: hi} }

func ratio(num, den int64) api.Ratio { return api.Ratio{Num: num, Den: den} }

func hullOf(space, step int64, stations ...[]api.Range) api.BoxHull {
	return api.BoxHull{Space: space, Step: step, Offsets: stations}
}

func row(l ...api.Range) []api.Range { return l }

// two is the hull of the chapter's examples.
func two() api.BoxHull {
	return hullOf(10, 6, row(rg(2, 4), rg(6, 6)), row(rg(0, 1), rg(3, 3)))
}

// even is a hull with the same range everywhere.
func even(space, step int64, stations, lines int, r api.Range) api.BoxHull {
	h := api.BoxHull{Space: space, Step: step}
	for range stations {
		h.Offsets = append(h.Offsets, slices.Repeat([]api.Range{r}, lines))
	}
	return h
}

// largest is a hull at all limits, with the widest ranges.
func largest() api.BoxHull { return even(1000, 100, 10, 6, rg(480, 500)) }

func copyOf(h api.BoxHull) api.BoxHull {
	c := api.BoxHull{Space: h.Space, Step: h.Step}
	for _, station := range h.Offsets {
		c.Offsets = append(c.Offsets, slices.Clone(station))
	}
	return c
}

func rowsOf(offsets [][]int64) [][]int64 {
	var out [][]int64
	for _, station := range offsets {
		out = append(out, slices.Clone(station))
	}
	return out
}

// picked is the true hull with the offset that is picked from each range.
func picked(h api.BoxHull, pick func(api.Range) int64) [][]int64 {
	var out [][]int64
	for _, station := range h.Offsets {
		var l []int64
		for _, r := range station {
			l = append(l, pick(r))
		}
		out = append(out, l)
	}
	return out
}

func lows(h api.BoxHull) [][]int64 { return picked(h, func(r api.Range) int64 { return r.Lo }) }

func highs(h api.BoxHull) [][]int64 { return picked(h, func(r api.Range) int64 { return r.Hi }) }

// anyTrue is some true hull.
func anyTrue(r *rand.Rand, h api.BoxHull) [][]int64 {
	return picked(h, func(x api.Range) int64 { return x.Lo + r.Int63n(x.Hi-x.Lo+1) })
}

// allTrue are all true hulls.
func allTrue(h api.BoxHull) [][][]int64 {
	all := [][][]int64{nil}
	for _, station := range h.Offsets {
		var longer [][][]int64
		for _, l := range allRows(station) {
			for _, offsets := range all {
				longer = append(longer, append(rowsOf(offsets), l))
			}
		}
		all = longer
	}
	return all
}

func allRows(station []api.Range) [][]int64 {
	all := [][]int64{nil}
	for _, r := range station {
		var longer [][]int64
		for _, l := range all {
			for y := r.Lo; y <= r.Hi; y++ {
				longer = append(longer, append(slices.Clone(l), y))
			}
		}
		all = longer
	}
	return all
}

// weightOf is the weight of the station, or waterline, i of n.
func weightOf(i, n int) int64 {
	if i == 0 || i == n-1 {
		return 1
	}
	return 2
}

// sumOf is the sum of a_i b_k y_ik, each times what times tells of i and k.
func sumOf(offsets [][]int64, times func(i, k int) int) int64 {
	var sum int64
	for i, station := range offsets {
		for k, y := range station {
			sum += weightOf(i, len(offsets)) * weightOf(k, len(station)) * y * int64(times(i, k))
		}
	}
	return sum
}

func volumeOf(h api.BoxHull, offsets [][]int64) *big.Rat {
	w := sumOf(offsets, func(int, int) int { return 1 })
	return big.NewRat(h.Space*h.Step*w, 2)
}

// aboveAndBelow are what is divided for a number, and what it is divided by.
func aboveAndBelow(h api.BoxHull, offsets [][]int64, what int) (int64, int64) {
	w := sumOf(offsets, func(int, int) int { return 1 })
	switch what {
	case api.BoxAlong:
		return h.Space * sumOf(offsets, func(i, _ int) int { return i }), w
	case api.BoxAbove:
		return h.Step * sumOf(offsets, func(_, k int) int { return k }), w
	}
	var cubes int64
	for i, station := range offsets {
		top := station[len(station)-1]
		cubes += weightOf(i, len(offsets)) * top * top * top
	}
	return 3*h.Step*h.Step*sumOf(offsets, func(_, k int) int { return k }) + 2*cubes, 3 * h.Step * w
}

func valueOf(h api.BoxHull, offsets [][]int64, what int) *big.Rat {
	return big.NewRat(aboveAndBelow(h, offsets, what))
}

func ratOf(r api.Ratio) *big.Rat { return big.NewRat(r.Num, r.Den) }

// same tells whether a result is a number, in least terms.
func same(r api.Ratio, n *big.Rat) bool {
	return n.Num().IsInt64() && r.Num == n.Num().Int64() && r.Den == n.Denom().Int64()
}

// spanOf is the least and the greatest number of some true hulls.
func spanOf(all [][][]int64, number func([][]int64) *big.Rat) (*big.Rat, *big.Rat) {
	var lo, hi *big.Rat
	for _, offsets := range all {
		n := number(offsets)
		if lo == nil || n.Cmp(lo) < 0 {
			lo = n
		}
		if hi == nil || n.Cmp(hi) > 0 {
			hi = n
		}
	}
	return lo, hi
}

// isBeyond tells whether some true hull has a number beyond n: what is divided, less n times what it is divided by, is a sum over all places, each of which can be taken as great as can be (or as small) without the others.
func isBeyond(h api.BoxHull, what int, n *big.Rat, above bool) bool {
	least := lows(h)
	gap := func(offsets [][]int64) *big.Rat {
		num, den := aboveAndBelow(h, offsets, what)
		g := new(big.Rat).Mul(big.NewRat(den, 1), n)
		g.Sub(big.NewRat(num, 1), g)
		if !above {
			g.Neg(g)
		}
		return g
	}
	base := gap(least)
	sum := new(big.Rat).Set(base)
	for i, station := range h.Offsets {
		for k, r := range station {
			most := new(big.Rat)
			for y := r.Lo; y <= r.Hi; y++ {
				least[i][k] = y
				if more := new(big.Rat).Sub(gap(least), base); more.Cmp(most) > 0 {
					most = more
				}
			}
			least[i][k] = r.Lo
			sum.Add(sum, most)
		}
	}
	return sum.Sign() > 0
}

// samples are hulls of many shapes with few true hulls, always the same ones: narrow and wide ranges, slender hulls and beamy ones, from 2 to 4 stations and from 2 to 4 waterlines.
func samples(many int) []api.BoxHull {
	r := rand.New(rand.NewSource(1872))
	var out []api.BoxHull
	for len(out) < many {
		h := api.BoxHull{Space: 1 + r.Int63n(9), Step: 1 + r.Int63n(9)}
		lines := 2 + r.Intn(3)
		beam := []int64{1, 3, 12, 60, 480}[r.Intn(5)]
		hulls, inside := 1, false
		for range 2 + r.Intn(3) {
			var station []api.Range
			for range lines {
				x := rg(r.Int63n(beam+1), 0)
				x.Hi = x.Lo
				if wide := r.Int63n([]int64{2, 4, 21}[r.Intn(3)]); hulls*int(wide+1) <= 400 {
					x.Hi += wide
					hulls *= int(wide + 1)
				}
				inside = inside || x.Lo > 0
				station = append(station, x)
			}
			h.Offsets = append(h.Offsets, station)
		}
		if inside {
			out = append(out, h)
		}
	}
	return out
}

// large are hulls of any size, always the same ones, with ends up to the limits.
func large(many int) []api.BoxHull {
	r := rand.New(rand.NewSource(1910))
	var out []api.BoxHull
	for i := range many {
		h := api.BoxHull{Space: 1 + r.Int63n(api.MaxBoxSpace), Step: 1 + r.Int63n(api.MaxBoxStep)}
		stations, lines := 2+r.Intn(9), 2+r.Intn(5)
		beam := []int64{5, 50, 480}[i%3]
		for range stations {
			var station []api.Range
			for range lines {
				lo := r.Int63n(beam + 1)
				station = append(station, rg(lo, lo+r.Int63n(api.MaxBoxWide+1)))
			}
			h.Offsets = append(h.Offsets, station)
		}
		h.Offsets[0][0].Lo = max(h.Offsets[0][0].Lo, 1)
		h.Offsets[0][0].Hi = max(h.Offsets[0][0].Hi, 1)
		out = append(out, h)
	}
	return out
}
