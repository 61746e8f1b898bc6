package wave_test

import (
	"math/rand"
	"slices"
	"testing"

	"tumblehome/api"
	"tumblehome/wave"
)

// complexity is what Shortest says.
func complexity(t *testing.T, bits []int) int {
	t.Helper()
	taps, e := wave.Shortest(bits)
	if e != api.OK {
		t.Fatal(bits, e)
	}
	return len(taps)
}

func spectrum(t *testing.T, bits []int) []int {
	t.Helper()
	l, e := wave.Spectrum(bits)
	if e != api.OK {
		t.Fatal(bits, e)
	}
	return l
}

// All right proofs of few bits: none has a bound that a register that makes the bits does not keep.
func TestP5_9Shortest(t *testing.T) {
	for _, bits := range short(7) {
		most := 0
		for _, taps := range short(7) {
			for at := range bits {
				if n, e := wave.CheckProof(bits, api.WaveProof{Taps: taps, At: at}); e == api.OK {
					most = max(most, n)
				}
			}
		}
		for _, taps := range short(7) {
			if e := wave.CheckRegister(bits, taps); e == api.OK && len(taps) < most {
				t.Fatal(bits, taps, most)
			}
		}
		if complexity(t, bits) != most {
			t.Fatal(bits, most)
		}
	}
	r := rand.New(rand.NewSource(9))
	for _, bits := range samples(2, api.MaxWaveBits) {
		least := complexity(t, bits)
		p, e := wave.Proof(bits)
		if n, f := wave.CheckProof(bits, p); e == api.OK && (n != least || f != api.OK) || e != api.OK && (e != api.ErrNone || least != 0) {
			t.Fatal(bits, p, n, e, f)
		}
		// any other right proof
		for range 20 {
			taps := anyBits(r, r.Intn(4), 2)
			at := 0
			for at < len(bits) && makes(taps, bits[:at+1]) {
				at++
			}
			if n, e := wave.CheckProof(bits, api.WaveProof{Taps: taps, At: at}); e == api.OK && n > least {
				t.Fatal(bits, taps, at, n, least)
			}
		}
	}
}

func TestP5_10OnlyOne(t *testing.T) {
	for _, bits := range short(8) {
		least := complexity(t, bits)
		l := makersOf(bits, least)
		if taps, _ := wave.Shortest(bits); len(bits) >= 2*least && (len(l) != 1 || !slices.Equal(taps, l[0])) {
			t.Fatal(bits, taps, l)
		}
	}
	once := 0
	for _, bits := range samples(2, api.MaxWaveBits) {
		least := complexity(t, bits)
		if len(bits) < 2*least {
			continue
		}
		once++
		if solutions(bits, least) != 1 {
			t.Fatal(bits, least)
		}
	}
	if once < 100 {
		t.Error("too few samples", once)
	}
	// a register that has made twice as many bits as it is long is found again
	r := rand.New(rand.NewSource(10))
	for long := range api.MaxWaveBits/2 + 1 {
		taps, start := anyBits(r, long, 2), anyBits(r, long, 2)
		bits, _ := wave.Run(taps, start, 2*long)
		if found, e := wave.Shortest(bits); len(found) == long && !slices.Equal(found, taps) || len(found) > long || e != api.OK {
			t.Fatal(bits, taps, found, e)
		}
	}
}

func TestP5_11Profile(t *testing.T) {
	for _, bits := range slices.Concat(short(10), samples(3, api.MaxWaveBits), lonely()) {
		l, e := wave.Profile(bits)
		if len(l) != len(bits)+1 || e != api.OK {
			t.Fatal(bits, l, e)
		}
		for n := range bits {
			if l[n+1] < l[n] || l[n+1] != l[n] && l[n+1] != n+1-l[n] {
				t.Fatal(bits, n, l)
			}
		}
		if l[len(bits)] != complexity(t, bits) {
			t.Fatal(bits, l)
		}
	}
}

// added are the sums of bits, modulo 2.
func added(a, b []int) []int {
	out := slices.Clone(a)
	for i := range out {
		out[i] ^= b[i]
	}
	return out
}

func TestP5_12Together(t *testing.T) {
	for many := range 7 {
		for _, a := range allBits(many) {
			for _, b := range allBits(many) {
				if complexity(t, added(a, b)) > complexity(t, a)+complexity(t, b) {
					t.Fatal(a, b)
				}
			}
		}
	}
	r := rand.New(rand.NewSource(11))
	for range 500 {
		many, one, other := 1+r.Intn(api.MaxWaveBits), r.Intn(30), r.Intn(30)
		a, _ := wave.Run(anyBits(r, one, 2), anyBits(r, one, 2), many)
		b, _ := wave.Run(anyBits(r, other, 2), anyBits(r, other, 2), many)
		if n, m := complexity(t, a), complexity(t, b); n > one || m > other || complexity(t, added(a, b)) > n+m {
			t.Fatal(a, b)
		}
	}
}

func TestP5_13Flat(t *testing.T) {
	for long := 1; 1<<long-1 <= api.MaxWaveBits; long++ {
		full, e := wave.Full(long)
		if len(full) == 0 || e != api.OK {
			t.Fatal(long, full, e)
		}
		many := 1<<long - 1
		want := slices.Repeat([]int{-1}, many)
		want[0] = many
		for _, taps := range full {
			for _, start := range allBits(long)[1:] {
				bits, _ := wave.Run(taps, start, many)
				if l := spectrum(t, bits); !slices.Equal(l, want) {
					t.Fatal(taps, start, l)
				}
				if ones := len(bits) - len(slices.DeleteFunc(bits, func(bit int) bool { return bit == 1 })); ones != 1<<(long-1) {
					t.Fatal(taps, start, ones)
				}
				if n, e := wave.Period(taps, start); n != many || e != api.OK {
					t.Fatal(taps, start, n, e)
				}
			}
		}
	}
}

func TestP5_14Spectrum(t *testing.T) {
	for _, bits := range slices.Concat(short(9), samples(2, api.MaxWaveBits), lonely()) {
		if len(bits) == 0 {
			continue
		}
		l := spectrum(t, bits)
		back := slices.Clone(l[1:])
		slices.Reverse(back)
		if !slices.Equal(l[1:], back) {
			t.Fatal("not the same from its end", bits, l)
		}
		half := len(bits) / 2
		turned := slices.Concat(bits[half:], bits[:half])
		fromEnd := slices.Clone(bits)
		slices.Reverse(fromEnd)
		for _, other := range [][]int{turned, slices.Concat(bits[1:], bits[:1]), fromEnd, inverted(bits)} {
			if l2 := spectrum(t, other); !slices.Equal(l, l2) {
				t.Fatal(bits, l, other, l2)
			}
		}
		sum, more := 0, 0
		for i, bit := range bits {
			sum += l[i]
			more += 1 - 2*bit
		}
		if sum != more*more {
			t.Fatal(bits, l)
		}
	}
}
