package wave

import "tumblehome/api"

// attempt is a register that makes the bits before the place at, but not the one there.
type attempt struct {
	register
	at int
}

// isRight reports whether an attempt is what it says, for bits that reach beyond its place.
func (a attempt) isRight(bits []int) bool {
	return a.long <= a.at && a.wrong(bits[:a.at+1]) == a.at
}

// bound returns how long a register has to be that makes the bit, too.
func (a attempt) bound() int { return a.at + 1 - a.long }

// proof returns the attempt as others get it.
func (a attempt) proof() api.WaveProof { return api.WaveProof{Taps: a.list(), At: a.at} }

// mended returns a register that makes the bit, too. Both registers are wrong, each at its place; with the earlier one moved up to the later place, both faults are at the same one, and cancel.
func (a attempt) mended(by attempt) register {
	gap := a.at - by.at
	first := words{1}
	return register{
		taps: sum(a.taps, first.up(gap-1), by.taps.up(gap)),
		long: max(a.long, by.long+gap),
	}
}

// seek returns the registers that are tried for bits, each one as short as there is for the bits before its place, and at last the one that makes all of them. The first attempt is none at a bit, but what the others begin with.
func seek(bits []int) ([]attempt, register) {
	tried := []attempt{{at: -1}}
	var now register
	for {
		at := now.wrong(bits)
		if at == len(bits) {
			return tried, now
		}
		a := attempt{now, at}
		now = a.mended(strongest(tried))
		tried = append(tried, a)
	}
}

// strongest returns the first attempt with the greatest bound: the register that it mends gets least longer.
func strongest(tried []attempt) attempt {
	return best(tried, func(a attempt) int { return a.bound() })
}

// best returns the first one that is worth most, of a list that has some.
func best[T any](all []T, worth func(T) int) T {
	most := all[0]
	for _, x := range all[1:] {
		if worth(x) > worth(most) {
			most = x
		}
	}
	return most
}
