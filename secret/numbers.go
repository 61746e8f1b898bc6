package secret

import "tumblehome/api"

// numbers is the numbers of a row, or of a twin. It has room for the most offsets; what is behind the last one is 0.
type numbers [api.MaxSecretOffsets]int64

// numbersOf takes over a list that is checked.
func numbersOf(list []int64) numbers {
	var n numbers
	copy(n[:], list)
	return n
}

// isNone reports whether all numbers are 0.
func (n numbers) isNone() bool { return n == numbers{} }

// sum returns the sum of a hull by a row.
func (n numbers) sum(hull ...int64) int64 { return product(n[:], hull) }

// combination is times a row that is asked, less so many times each of the Rows of a book. It has room for the most Rows.
type combination struct {
	times int64
	by    [api.MaxSecretRows]int64
}

// told returns times the value of the row that is asked, if nothing is left of it, from the values of the Rows.
func (c combination) told(values ...int64) int64 { return product(c.by[:], values) }

// product returns the sum of the numbers of a list, each times the one of a list that is not shorter.
func product(by, list []int64) int64 {
	var sum int64
	for i, n := range list {
		sum += by[i] * n
	}
	return sum
}

// cut returns the first so many numbers of a list, as a list of their own.
func cut(list []int64, many int) []int64 {
	own := make([]int64, many)
	copy(own, list[:many:many])
	return own
}

// subtract makes x into a times x less b times y.
func subtract(x []int64, a int64, y []int64, b int64) {
	for i := range x {
		x[i] = a*x[i] - b*y[i]
	}
}

// divide makes x into x divided by a common divisor.
func divide(x []int64, d int64) {
	for i := range x {
		x[i] /= d
	}
}

// lessened returns two numbers with the same quotient, without a common divisor, and of which the first is above 0; it must not be 0.
func lessened[T int | int64](a, b T) (T, T) {
	d := divisor(a, b)
	if a < 0 {
		d = -d
	}
	return a / d, b / d
}

// divisor returns the greatest common divisor of some numbers; 0 if all are 0.
func divisor[T int | int64](all ...T) T {
	var d T
	for _, n := range all {
		for n != 0 {
			d, n = n, d%n
		}
	}
	return max(d, -d)
}
