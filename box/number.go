package box

import "tumblehome/api"

// part is what one offset adds to what is divided, and to what it is divided by.
type part struct {
	num, den int64
}

// share tells which part the offset y has at a place; the number that is asked is the sum of all num divided by that of all den.
type share func(p place, y int64) part

// question returns a hull that is checked, and the share of what is asked of it.
func question(h api.BoxHull, what int) (hull, share, api.Errno) {
	if e := CheckHull(h); e != api.OK {
		return hull{}, nil, e
	}
	x := hull{h}
	by, e := x.asked(what)
	return x, by, e
}

// asked returns the share of what is asked.
func (h hull) asked(what int) (share, api.Errno) {
	switch what {
	case api.BoxAlong:
		return h.along, api.OK
	case api.BoxAbove:
		return h.above, api.OK
	case api.BoxMeta:
		return h.meta, api.OK
	}
	return nil, api.ErrRange
}

// along is the share of how far along the centre of the volume is.
func (h hull) along(p place, y int64) part {
	return part{num: h.Space * int64(p.station) * p.weight * y, den: p.weight * y}
}

// above is the share of how high the centre of the volume is.
func (h hull) above(p place, y int64) part {
	return part{num: h.Step * int64(p.line) * p.weight * y, den: p.weight * y}
}

// meta is the share of how high the metacentre is: as high as the centre of the volume, and what the highest waterline adds to it. That one is the last, so that the weight of its places is just that of their stations.
func (h hull) meta(p place, y int64) part {
	centre := h.above(p, y)
	all := part{num: 3 * h.Step * centre.num, den: 3 * h.Step * centre.den}
	if p.line == h.lines()-1 {
		all.num += 2 * p.weight * y * y * y
	}
	return all
}

// number returns the number that is asked of a true hull.
func (h hull) number(by share, g grid) api.Ratio {
	var all part
	for p := range h.places() {
		one := by(p, g[p.station][p.line])
		all.num += one.num
		all.den += one.den
	}
	return fraction(all.num, all.den)
}

// farthest returns the true hull that is farthest beyond a number (above it if high is true, otherwise below it), and how far it is: the sum of each num times the Den of the number, less that of each den times its Num. Some true hull is beyond the number just if this is above 0.
//
// These sums stay below 2^62: at the limits of hulls those of num and den are 11,250,000,000 and 27,000,000, and those of bounds are 10^11 and 10^8.
func (h hull) farthest(by share, number api.Ratio, high bool) (grid, int64) {
	var g grid
	var sum int64
	for p := range h.places() {
		y, gap := p.best(func(y int64) int64 {
			one := by(p, y)
			gap := one.num*number.Den - one.den*number.Num
			if high {
				return gap
			}
			return -gap
		})
		g[p.station][p.line] = y
		sum += gap
	}
	return g, sum
}

// best returns the offset of a place for which the gap is greatest, and this gap. It tries them all, as with a third power that has to be small it may lie between the ends.
func (p place) best(gap func(y int64) int64) (int64, int64) {
	best, most := p.Lo, gap(p.Lo)
	for y := p.Lo + 1; y <= p.Hi; y++ {
		if n := gap(y); n > most {
			best, most = y, n
		}
	}
	return best, most
}

// end returns a true hull with the greatest number (with the least one if high is false), and this number. Each hull that is found is beyond the number of the one before it, so that none comes twice; and the last one is at the end, as no hull is beyond its number.
func (h hull) end(by share, high bool) (grid, api.Ratio) {
	found := h.built(func(p place) int64 { return p.Lo })
	number := h.number(by, found)
search:
	for {
		switch next, gap := h.farthest(by, number, high); {
		case gap > 0:
			found = next
			number = h.number(by, next)
		default:
			break search
		}
	}
	return found, number
}

// fraction returns num / den in least terms; num is not below 0, den is above it.
func fraction(num, den int64) api.Ratio {
	d := divisor(num, den)
	return api.Ratio{Num: num / d, Den: den / d}
}

// divisor returns the greatest common divisor of two numbers that are not below 0, and not both 0.
func divisor[T int | int64](a, b T) T {
	for b != 0 {
		a, b = b, a%b
	}
	return a
}
