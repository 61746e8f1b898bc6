package wave

import (
	"math/bits"

	"tumblehome/api"
)

// wide is how many bits a word has.
const wide = 64

// words is bits, the first one in the lowest place of the first word. It has room for the most bits; what is behind the last one is 0.
type words [api.MaxWaveBits / wide]uint64

// wordsOf takes over a list that is checked.
func wordsOf(list []int) words {
	var w words
	for i, bit := range list {
		w[i/wide] |= uint64(bit) << (i % wide)
	}
	return w
}

// list returns the first bits, so many of them.
func (w words) list(many int) []int {
	list := make([]int, many)
	for i := range list {
		list[i] = w.at(i)
	}
	return list
}

// at returns one bit.
func (w words) at(i int) int { return int(w[i/wide] >> (i % wide) & 1) }

// isNone reports whether no bit is 1.
func (w words) isNone() bool { return w == words{} }

// ones returns how many bits are 1.
func (w words) ones() int {
	many := 0
	for _, word := range w {
		many += bits.OnesCount64(word)
	}
	return many
}

// times returns the products of the bits of both.
func (w words) times(by words) words {
	for i := range w {
		w[i] &= by[i]
	}
	return w
}

// sum returns the sums of the bits of all, modulo 2.
func sum(all ...words) words {
	var total words
	for _, w := range all {
		for i := range total {
			total[i] ^= w[i]
		}
	}
	return total
}

// up moves each bit so many places behind its own. Bits for which there is no room get lost.
func (w words) up(places int) words {
	whole, part := places/wide, places%wide
	var to words
	for i := whole; i < len(to); i++ {
		to[i] = w[i-whole] << part
		if i > whole {
			to[i] |= w[i-whole-1] >> (wide - part)
		}
	}
	return to
}

// down moves each bit so many places before its own. Bits that would come before the first one get lost.
func (w words) down(places int) words {
	whole, part := places/wide, places%wide
	var to words
	for i := 0; i+whole < len(to); i++ {
		to[i] = w[i+whole] >> part
		if i+whole+1 < len(to) {
			to[i] |= w[i+whole+1] << (wide - part)
		}
	}
	return to
}

// first returns the first bits, so many of them; what is behind them is 0.
func (w words) first(many int) words {
	behind := api.MaxWaveBits - many
	return w.up(behind).down(behind)
}

// turned returns so many bits turned round: the one at a shift comes first, and those before it last.
func (w words) turned(many, shift int) words {
	return sum(w.down(shift), w.up(many-shift)).first(many)
}
