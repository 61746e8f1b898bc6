package secret_test

import (
	"math"
	"math/big"
	"math/rand"
	"slices"

	"tumblehome/api"
)

// What the chapter defines, written down once more in another way: by determinants, and with numbers of any size.

const (
	low  = math.MinInt64
	high = math.MaxInt64
)

func row(l ...int64) []int64 { return l }

func bookOf(offsets int, rows ...[]int64) api.SecretBook {
	return api.SecretBook{Offsets: offsets, Rows: rows}
}

// two is the book B of the chapter's examples.
func two() api.SecretBook { return bookOf(3, row(1, 1, 0), row(0, 1, 1)) }

// with is a book with some rows more.
func with(b api.SecretBook, rows ...[]int64) api.SecretBook {
	return bookOf(b.Offsets, append(listsOf(b.Rows), listsOf(rows)...)...)
}

// without is a book without its row i.
func without(b api.SecretBook, i int) api.SecretBook {
	return bookOf(b.Offsets, slices.Delete(listsOf(b.Rows), i, i+1)...)
}

// listsOf is a copy of lists.
func listsOf(lists [][]int64) [][]int64 {
	var out [][]int64
	for _, l := range lists {
		out = append(out, slices.Clone(l))
	}
	return out
}

// determinant is by its first row.
func determinant(m [][]int64) int64 {
	if len(m) == 0 {
		return 1
	}
	var sum int64
	for k, n := range m[0] {
		if n == 0 {
			continue
		}
		var less [][]int64
		for _, l := range m[1:] {
			less = append(less, slices.Delete(slices.Clone(l), k, k+1))
		}
		if k%2 == 1 {
			n = -n
		}
		sum += n * determinant(less)
	}
	return sum
}

// choices are all lists of so many of the first n numbers from 0 on, increasing.
func choices(n, many int) [][]int {
	if many == 0 {
		return [][]int{nil}
	}
	var out [][]int
	for last := many - 1; last < n; last++ {
		for _, l := range choices(last, many-1) {
			out = append(out, append(slices.Clone(l), last))
		}
	}
	return out
}

// square is the part of a matrix with these rows and columns.
func square(m [][]int64, rows, columns []int) [][]int64 {
	var out [][]int64
	for _, i := range rows {
		var l []int64
		for _, k := range columns {
			l = append(l, m[i][k])
		}
		out = append(out, l)
	}
	return out
}

// largest is the rows and the columns of a largest square whose determinant is not 0.
func largest(m [][]int64) (rows, columns []int) {
	if len(m) == 0 {
		return nil, nil
	}
	for many := min(len(m), len(m[0])); many > 0; many-- {
		for _, rows := range choices(len(m), many) {
			for _, columns := range choices(len(m[0]), many) {
				if determinant(square(m, rows, columns)) != 0 {
					return rows, columns
				}
			}
		}
	}
	return nil, nil
}

func rankOf(m [][]int64) int {
	rows, _ := largest(m)
	return len(rows)
}

// isComputed tells whether a row can be computed: whether it does not make the rank greater.
func isComputed(b api.SecretBook, row []int64) bool {
	return rankOf(append(listsOf(b.Rows), row)) == rankOf(b.Rows)
}

// contradict tells whether values contradict each other: whether they make the rank greater as numbers of one offset more.
func contradict(b api.SecretBook, values []int64) bool {
	var wide [][]int64
	for i, l := range b.Rows {
		wide = append(wide, append(slices.Clone(l), values[i]))
	}
	return rankOf(wide) != rankOf(b.Rows)
}

// offsetsOf are offsets that have values, which must not contradict each other: those of the columns of a largest square by determinants (Cramer), the others 0.
func offsetsOf(b api.SecretBook, values []int64) []*big.Rat {
	var out []*big.Rat
	for range b.Offsets {
		out = append(out, new(big.Rat))
	}
	rows, columns := largest(b.Rows)
	m := square(b.Rows, rows, columns)
	for k, column := range columns {
		other := listsOf(m)
		for i, r := range rows {
			other[i][k] = values[r]
		}
		out[column] = big.NewRat(determinant(other), determinant(m))
	}
	return out
}

// valueOf is the sum of offsets by a row.
func valueOf(offsets []*big.Rat, row []int64) *big.Rat {
	sum := new(big.Rat)
	for k, y := range offsets {
		sum.Add(sum, new(big.Rat).Mul(y, big.NewRat(row[k], 1)))
	}
	return sum
}

// sumOf is the sum of a hull by a row.
func sumOf(row, hull []int64) *big.Int {
	sum := new(big.Int)
	for k, n := range row {
		sum.Add(sum, new(big.Int).Mul(big.NewInt(n), big.NewInt(hull[k])))
	}
	return sum
}

func isWithin(most int64, l ...int64) bool {
	return !slices.ContainsFunc(l, func(n int64) bool { return n < -most || n > most })
}

// isProof tells whether a proof is one, and right.
func isProof(b api.SecretBook, row []int64, p api.SecretProof) bool {
	if len(p.By) != len(b.Rows) || !isWithin(api.MaxNumber, p.By...) || p.Times < 1 || p.Times > api.MaxNumber {
		return false
	}
	for k, n := range row {
		var column []int64
		for _, l := range b.Rows {
			column = append(column, l[k])
		}
		if sumOf(column, p.By).Cmp(sumOf([]int64{n}, []int64{p.Times})) != 0 {
			return false
		}
	}
	return true
}

// isTwin tells whether a twin is one, and right.
func isTwin(b api.SecretBook, row, twin []int64) bool {
	if len(twin) != b.Offsets || !isWithin(api.MaxNumber, twin...) || sumOf(row, twin).Sign() == 0 {
		return false
	}
	return !slices.ContainsFunc(b.Rows, func(l []int64) bool { return sumOf(l, twin).Sign() != 0 })
}

// same tells whether a result is a number, in least terms.
func same(r api.Ratio, n *big.Rat) bool {
	return n.Num().IsInt64() && r.Num == n.Num().Int64() && r.Den == n.Denom().Int64()
}

// allRows are all rows with numbers of at most some amount.
func allRows(offsets int, most int64) [][]int64 {
	all := [][]int64{nil}
	for range offsets {
		var longer [][]int64
		for _, l := range all {
			for n := -most; n <= most; n++ {
				longer = append(longer, append(slices.Clone(l), n))
			}
		}
		all = longer
	}
	return all
}

// anyList is some list of numbers with amounts of at most so much.
func anyList(r *rand.Rand, many int, most int64) []int64 {
	l := make([]int64, many)
	for i := range l {
		l[i] = r.Int63n(2*most+1) - most
	}
	return l
}

// sparse is some row in which many numbers are 0.
func sparse(r *rand.Rand, offsets int) []int64 {
	l := anyList(r, offsets, api.MaxSecretTimes)
	for k := range l {
		if r.Intn(2) == 0 {
			l[k] = 0
		}
	}
	return l
}

// extreme is some row in which all numbers are as great, or as small, as can be.
func extreme(r *rand.Rand, offsets int) []int64 {
	l := make([]int64, offsets)
	for k := range l {
		l[k] = api.MaxSecretTimes - 2*api.MaxSecretTimes*r.Int63n(2)
		if r.Intn(4) == 0 {
			l[k] += r.Int63n(3) - 1
			l[k] = min(max(l[k], -api.MaxSecretTimes), api.MaxSecretTimes)
		}
	}
	return l
}

// mixed is a row that can often be computed: some rows of a book, each once or twice, added or taken away.
func mixed(r *rand.Rand, b api.SecretBook) []int64 {
	sum := make([]int64, b.Offsets)
	for range 1 + r.Intn(3) {
		if len(b.Rows) == 0 {
			return sum
		}
		by := r.Int63n(5) - 2
		for k, n := range b.Rows[r.Intn(len(b.Rows))] {
			sum[k] += by * n
		}
	}
	for k := range sum {
		sum[k] = min(max(sum[k], -api.MaxSecretTimes), api.MaxSecretTimes)
	}
	return sum
}

// anyRow is some row of one of many kinds.
func anyRow(r *rand.Rand, b api.SecretBook) []int64 {
	switch r.Intn(6) {
	case 0:
		return sparse(r, b.Offsets)
	case 1:
		return extreme(r, b.Offsets)
	case 2:
		return anyList(r, b.Offsets, 1)
	case 3:
		return anyList(r, b.Offsets, api.MaxSecretTimes)
	}
	return mixed(r, b)
}

// samples are books of all sizes, always the same ones.
func samples(many int) []api.SecretBook {
	r := rand.New(rand.NewSource(1872))
	var out []api.SecretBook
	for i := range many {
		b := bookOf(1 + i%api.MaxSecretOffsets)
		for range r.Intn(api.MaxSecretRows + 1) {
			b = with(b, anyRow(r, b))
		}
		out = append(out, b)
	}
	return out
}

// small are all books of two offsets and at most two rows with small numbers.
func small() []api.SecretBook {
	out := []api.SecretBook{bookOf(2)}
	for _, a := range allRows(2, 2) {
		out = append(out, bookOf(2, a))
		for _, b := range allRows(2, 2) {
			out = append(out, bookOf(2, a, b))
		}
	}
	return out
}

// asked are some rows for a book, always the same ones: a row of zeros, its own Rows, those of single offsets, and others.
func asked(b api.SecretBook, many int) [][]int64 {
	r := rand.New(rand.NewSource(int64(7*len(b.Rows) + b.Offsets)))
	out := append(listsOf(b.Rows), make([]int64, b.Offsets))
	for k := range b.Offsets {
		out = append(out, make([]int64, b.Offsets))
		out[len(out)-1][k] = 1
	}
	for range many {
		out = append(out, anyRow(r, b))
	}
	return out
}
