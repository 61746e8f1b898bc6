package secret

import (
	"iter"

	"tumblehome/api"
)

// rows yields the Rows of a book, with their indices.
func rows(b api.SecretBook) iter.Seq2[int, numbers] {
	return func(yield func(int, numbers) bool) {
		for i, row := range b.Rows {
			if !yield(i, numbersOf(row)) {
				return
			}
		}
	}
}

// mix is a row with the combination that it is.
type mix struct {
	numbers
	combination
}

// rest is what is left of a row and its value.
type rest struct {
	numbers
	value int64
}

// asked returns a row that is asked, not reduced yet.
func asked(n numbers) mix {
	return mix{numbers: n, combination: combination{times: 1}}
}

// listed returns the row i of a book, not reduced yet.
func listed(i int, n numbers) mix {
	x := mix{numbers: n}
	x.by[i] = -1 // as a combination tells what is taken away
	return x
}

// opened returns what is left of the Rows of a book, by first places, and how a row is reduced by it: to what is left of the row, and its first place. Each of the Rows is reduced by those before it; so no two that are kept have the same first place, and nothing is left of a row just if it can be computed.
func opened(b api.SecretBook) (kept map[int]mix, reduce func(mix) (mix, int)) {
	kept = map[int]mix{}
	reduce = func(x mix) (mix, int) {
		place := 0
	search:
		for place < len(x.numbers) {
			switch y, ok := kept[place]; {
			case x.numbers[place] == 0:
				place++
			case ok:
				x = x.cleared(place, y)
			default:
				break search
			}
		}
		return x, place
	}
	for i, n := range rows(b) {
		if left, place := reduce(listed(i, n)); !left.isNone() {
			kept[place] = left
		}
	}
	return kept, reduce
}

// cleared returns x without what it has at the first place of y, a row that is kept: some times x less some times y, in least numbers.
//
// No product overflows, as all numbers stay below 2^16. For what is left of a row is, but for a factor, the only combination of it with those of the Rows from which the ones with lesser first places were kept, that is 0 at all these places. There is one whose numbers are determinants of at most five rows (Cramer), which are at most 57,243 (Hadamard); and without common divisors they are not above these.
func (x mix) cleared(place int, y mix) mix {
	a, b := lessened(y.numbers[place], x.numbers[place])
	subtract(x.numbers[:], a, y.numbers[:], b)
	subtract(x.by[:], a, y.by[:], b)
	x.times *= a // y is of Rows only
	d := divisor(x.times, divisor(x.numbers[:]...), divisor(x.by[:]...))
	divide(x.numbers[:], d)
	divide(x.by[:], d)
	x.times /= d
	return x
}

// twinOf returns a right twin for a row of which something is left, with this first place. It has a number there, nothing behind it, and before it what the rows that are kept need for a sum of 0: none of them has this first place. So the sum by what is left of the row, which has nothing before this place, is not 0.
func twinOf(kept map[int]mix, first int) numbers {
	var x numbers
	x[first] = 1
	for place := first - 1; place >= 0; place-- {
		y, ok := kept[place]
		if !ok {
			continue
		}
		a, b := lessened(y.numbers[place], y.numbers.sum(x[:]...))
		for i := range x {
			x[i] *= a
		}
		x[place] = -b
	}
	return x
}
