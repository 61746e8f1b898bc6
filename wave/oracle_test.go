package wave_test

import (
	"math"
	"math/rand"
	"slices"

	"tumblehome/api"
)

// What the chapter defines, written down once more as plainly as can be: by trying all registers, and for many bits by solving equations.

const (
	low  = math.MinInt
	high = math.MaxInt
)

// bitsOf are the bits that a text shows.
func bitsOf(text string) []int {
	var out []int
	for _, c := range text {
		out = append(out, int(c-'0'))
	}
	return out
}

// sample are the bits S of the examples.
func sample() []int { return bitsOf("0011011") }

// zeros are as many bits that are 0, and then others.
func zeros(many int, then ...int) []int { return append(make([]int, many), then...) }

// allBits are all lists of so many bits, in lexicographic order.
func allBits(many int) [][]int {
	all := make([][]int, 1<<many)
	for n := range all {
		for i := range many {
			all[n] = append(all[n], n>>(many-1-i)&1)
		}
	}
	return all
}

// errorOf is the error of a list that should be bits.
func errorOf(list []int) api.Errno {
	if len(list) > 128 {
		return api.ErrMany
	}
	for _, n := range list {
		if n < 0 || n > 1 {
			return api.ErrRange
		}
	}
	return api.OK
}

// firstOf is the first one that is an error.
func firstOf(all ...api.Errno) api.Errno {
	for _, e := range all {
		if e != api.OK {
			return e
		}
	}
	return api.OK
}

// when is an error if something is so.
func when(so bool, e api.Errno) api.Errno {
	if so {
		return e
	}
	return api.OK
}

// sumAt is the sum of the products of taps and the bits before index i.
func sumAt(taps, bits []int, i int) int {
	sum := 0
	for j := 1; j <= len(taps); j++ {
		sum += taps[j-1] * bits[i-j]
	}
	return sum % 2
}

// makes tells whether the register with these taps makes bits.
func makes(taps, bits []int) bool {
	for i := len(taps); i < len(bits); i++ {
		if bits[i] != sumAt(taps, bits, i) {
			return false
		}
	}
	return true
}

// runOf are the first bits of a register that runs on.
func runOf(taps, start []int, many int) []int {
	bits := slices.Clone(start)
	for len(bits) < many {
		bits = append(bits, sumAt(taps, bits, len(bits)))
	}
	return bits[:many]
}

// isRight tells whether a proof, with At in its range, is right.
func isRight(bits []int, p api.WaveProof) bool {
	return len(p.Taps) <= p.At && makes(p.Taps, bits[:p.At]) && !makes(p.Taps, bits[:p.At+1])
}

// makersOf are the taps of all registers of a length that make bits.
func makersOf(bits []int, long int) [][]int {
	var out [][]int
	for _, taps := range allBits(long) {
		if makes(taps, bits) {
			out = append(out, taps)
		}
	}
	return out
}

// leastOf is the complexity of few bits, by trying all registers.
func leastOf(bits []int) int {
	for long := range len(bits) {
		if len(makersOf(bits, long)) > 0 {
			return long
		}
	}
	return len(bits)
}

// complexityOf is the complexity of bits, by solving for the taps of each length.
func complexityOf(bits []int) int {
	for long := range len(bits) {
		if solutions(bits, long) > 0 {
			return long
		}
	}
	return len(bits)
}

// solutions tells how many registers of a length make bits: 0, 1, or 2 if there are more.
func solutions(bits []int, long int) int {
	var kept [][]int // equations: the bits before, the one that was made last first, and the bit; each with a first 1 where others have none
	var firsts []int
	for i := long; i < len(bits); i++ {
		row := make([]int, long+1)
		for j := 1; j <= long; j++ {
			row[j-1] = bits[i-j]
		}
		row[long] = bits[i]
		for k, other := range kept {
			if row[firsts[k]] == 1 {
				for j := range row {
					row[j] ^= other[j]
				}
			}
		}
		first := slices.Index(row, 1)
		if first == long {
			return 0
		}
		if first >= 0 {
			kept, firsts = append(kept, row), append(firsts, first)
		}
	}
	if len(kept) == long {
		return 1
	}
	return 2
}

// periodOf is the period of a register whose last tap is 1, or that has none, by comparing bits that are far more than enough.
func periodOf(taps, start []int) int {
	enough := 1 << len(taps)
	bits := runOf(taps, start, 2*enough+2*len(taps)+2)
	for p := 1; ; p++ {
		if slices.Equal(bits[p:], bits[:len(bits)-p]) {
			return p
		}
	}
}

// fullOf are the taps of all full registers of a length.
func fullOf(long int) [][]int {
	var out [][]int
	for _, taps := range allBits(long) {
		start := zeros(long)
		start[0] = 1
		if taps[long-1] == 1 && periodOf(taps, start) == 1<<long-1 {
			out = append(out, taps)
		}
	}
	return out
}

// spectrumOf compares each bit with each other.
func spectrumOf(bits []int) []int {
	n := len(bits)
	out := make([]int, n)
	for k := range n {
		for i := range n {
			if bits[i] == bits[(i+k)%n] {
				out[k]++
			} else {
				out[k]--
			}
		}
	}
	return out
}

// anyBits are random bits of which one in so many is 1.
func anyBits(r *rand.Rand, many, rare int) []int {
	bits := zeros(many)
	for i := range bits {
		if r.Intn(rare) == 0 {
			bits[i] = 1
		}
	}
	return bits
}

// samples are bits of all lengths up to most, some times over, always the same ones: of chance, rare ones, what short registers make, and that with a wrong bit.
func samples(times, most int) [][]int {
	r := rand.New(rand.NewSource(1843))
	var out [][]int
	for range times {
		for many := range most + 1 {
			out = append(out, anyBits(r, many, 2), anyBits(r, many, 30))
			long := r.Intn(many/2 + 1)
			made := runOf(anyBits(r, long, 2), anyBits(r, long, 2), many)
			wrong := slices.Clone(made)
			if many > 0 {
				wrong[r.Intn(many)] ^= 1
			}
			out = append(out, made, wrong)
		}
	}
	return out
}

// lonely are bits of which just one is 1, or just one is 0, or just both ends are 1.
func lonely() [][]int {
	var out [][]int
	for _, many := range []int{1, 2, 3, 63, 64, 65, 66, 127, 128} {
		for i := range many {
			one := zeros(many)
			one[i] = 1
			out = append(out, one, inverted(one))
		}
		ends := zeros(many)
		ends[0], ends[many-1] = 1, 1
		out = append(out, ends, zeros(many), inverted(zeros(many)))
	}
	return out
}

// inverted are bits in which 0 and 1 change places.
func inverted(bits []int) []int {
	out := slices.Clone(bits)
	for i := range out {
		out[i] = 1 - out[i]
	}
	return out
}

// short are all bits of up to so many.
func short(most int) [][]int {
	var out [][]int
	for many := range most + 1 {
		out = append(out, allBits(many)...)
	}
	return out
}
