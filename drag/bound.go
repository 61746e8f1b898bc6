package drag

import (
	"iter"

	"tumblehome/api"
)

// bound is a range, and the least and the greatest number that it may have.
type bound struct {
	api.Range
	least, most int64
}

// one is the range of one number.
func one(n int64) api.Range { return api.Range{Lo: n, Hi: n} }

// areKept reports whether all ranges are valid and within their bounds.
func areKept(bounds ...bound) bool {
	for range broken(bounds) {
		return false
	}
	return true
}

// broken yields the bounds that are not kept.
func broken(bounds []bound) iter.Seq[bound] {
	return func(yield func(bound) bool) {
		for _, b := range bounds {
			isKept := b.least <= b.Lo && b.Lo <= b.Hi && b.Hi <= b.most
			if !isKept && !yield(b) {
				return
			}
		}
	}
}

// ends returns the ends of a range, the lower one first.
func ends(r api.Range) [2]int64 { return [2]int64{r.Lo, r.Hi} }

// into returns the number of a range that is nearest to n.
func into(r api.Range, n int64) int64 { return min(max(n, r.Lo), r.Hi) }
