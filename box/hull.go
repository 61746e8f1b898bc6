package box

import (
	"iter"

	"tumblehome/api"
)

// hull is a hull that is checked.
type hull struct {
	api.BoxHull
}

// place is one of a hull's offsets: its range, where it is, and the weight of its station times that of its waterline.
type place struct {
	api.Range
	station, line int
	weight        int64
}

// places yields all places, station by station.
func (h hull) places() iter.Seq[place] {
	return func(yield func(place) bool) {
		a, b := weights(len(h.Offsets)), weights(h.lines())
		for i, station := range h.Offsets {
			for k, r := range station {
				if !yield(place{Range: r, station: i, line: k, weight: a[i] * b[k]}) {
					return
				}
			}
		}
	}
}

// lines returns how many waterlines there are.
func (h hull) lines() int { return len(h.Offsets[0]) }

// weights returns the weights of n stations, or of n waterlines, of which there are never more than stations.
func weights(n int) [api.MaxBoxStations]int64 {
	var w [api.MaxBoxStations]int64
	for i := range n {
		w[i] = 2
	}
	w[0], w[n-1] = 1, 1
	return w
}

// grid is the offsets of a true hull. It has room for the largest hull; what is behind the last station or waterline is not used.
type grid [api.MaxBoxStations][api.MaxBoxLines]int64

// gridOf takes over offsets that are checked.
func gridOf(offsets [][]int64) grid {
	var g grid
	for i, station := range offsets {
		copy(g[i][:], station)
	}
	return g
}

// rows returns the offsets of a true hull as lists.
func (h hull) rows(g grid) [][]int64 {
	offsets := make([][]int64, len(h.Offsets))
	for i := range offsets {
		offsets[i] = make([]int64, h.lines())
		copy(offsets[i], g[i][:])
	}
	return offsets
}

// built returns the hull that has at each place the offset that is picked for it.
func (h hull) built(pick func(place) int64) grid {
	var g grid
	for p := range h.places() {
		g[p.station][p.line] = pick(p)
	}
	return g
}

// volume returns the volume of a true hull.
func (h hull) volume(g grid) api.Ratio {
	var sum int64
	for p := range h.places() {
		sum += p.weight * g[p.station][p.line]
	}
	return fraction(h.Space*h.Step*sum, 2)
}
