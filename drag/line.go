package drag

import (
	"cmp"

	"tumblehome/api"
)

// arePoints reports whether the points of a line, with as many Re as Cf, are in their bounds and in their order.
func arePoints(l api.DragLine) bool {
	for i := range l.Re {
		if !areKept(bound{one(l.Re[i]), 1, api.MaxDragRe}, bound{one(l.Cf[i]), 0, api.MaxDragCf}) {
			return false
		}
		if i > 0 && (l.Re[i] <= l.Re[i-1] || l.Cf[i] > l.Cf[i-1]) {
			return false
		}
	}
	return true
}

// curve is a friction line that is checked.
type curve struct {
	api.DragLine
}

// curvesOf takes over lines that are checked.
func curvesOf(lines []api.DragLine) []curve {
	all := make([]curve, len(lines))
	for i, l := range lines {
		all[i] = curve{l}
	}
	return all
}

// has reports whether a number is not outside.
func (c curve) has(re int64) bool { return c.Re[0] <= re && re <= c.Re[len(c.Re)-1] }

// friction returns the friction at a number that is not outside. What is rounded is not below 0, so that dividing rounds down.
func (c curve) friction(re int64) int64 {
	next := behind(c.Re, re)
	if next == len(c.Re) {
		return c.Cf[next-1] // no point is behind the last one
	}
	a, b := c.Re[next-1], c.Re[next]
	from, to := c.Cf[next-1], c.Cf[next]
	return from - (from-to)*(re-a)/(b-a)
}

// behind returns the index of the first element of an increasing list that is greater than x, or the length of the list if none is.
func behind[T cmp.Ordered](list []T, x T) int {
	for i, y := range list {
		if y > x {
			return i
		}
	}
	return len(list)
}
