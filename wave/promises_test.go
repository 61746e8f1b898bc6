package wave_test

import (
	"math/rand"
	"reflect"
	"slices"
	"testing"

	"tumblehome/api"
	"tumblehome/wave"
)

// lists are bits, and lists that are none: too many, out of range, and both.
func lists() [][]int {
	return [][]int{
		nil, {0}, {1}, {0, 0}, {0, 1}, {1, 0}, {1, 1}, {1, 0, 1}, {0, 1, 0, 1, 1}, sample(),
		zeros(10, 0, 1), zeros(10, 1, 0), zeros(12, 1), zeros(12, 0), zeros(127, 1), zeros(128),
		zeros(129), zeros(128, 1), zeros(5000), zeros(128, 2), zeros(4999, -1),
		{2}, {-1}, {0, 2}, {2, 0}, {1, -1}, {low, 1}, {1, 1, high}, zeros(127, 2), {256, 1}, {1 << 32, 1},
	}
}

func TestP5_1CheckBits(t *testing.T) {
	for _, x := range []struct {
		bits []int
		e    api.Errno
	}{
		{nil, api.OK},
		{sample(), api.OK},
		{[]int{0}, api.OK},
		{[]int{1}, api.OK},
		{zeros(128), api.OK},
		{inverted(zeros(128)), api.OK},
		{zeros(129), api.ErrMany},
		{zeros(128, 2), api.ErrMany},
		{zeros(5000), api.ErrMany},
		{[]int{2}, api.ErrRange},
		{[]int{-1}, api.ErrRange},
		{[]int{0, 1, 2}, api.ErrRange},
		{[]int{high, 1}, api.ErrRange},
		{[]int{1, low}, api.ErrRange},
		{zeros(127, 2), api.ErrRange},
		{zeros(127, -1), api.ErrRange},
	} {
		if e := wave.CheckBits(x.bits); e != x.e {
			t.Error(x.bits, e, "not", x.e)
		}
	}
	for _, l := range lists() {
		if e := wave.CheckBits(l); e != errorOf(l) {
			t.Error(l, e)
		}
	}
}

// Functions that have just bits.
func TestP5_1BitsFirst(t *testing.T) {
	for _, bits := range lists() {
		want := errorOf(bits)
		taps, e := wave.Shortest(bits)
		if e != want || e != api.OK && taps != nil {
			t.Error(bits, taps, e)
		}
		profile, e := wave.Profile(bits)
		if e != want || e != api.OK && profile != nil {
			t.Error(bits, profile, e)
		}
		p, e := wave.Proof(bits)
		if e != firstOf(want, when(!slices.Contains(bits, 1), api.ErrNone)) || e != api.OK && (p.Taps != nil || p.At != 0) {
			t.Error(bits, p, e)
		}
		spectrum, e := wave.Spectrum(bits)
		if e != firstOf(want, when(len(bits) == 0, api.ErrNone)) || e != api.OK && spectrum != nil {
			t.Error(bits, spectrum, e)
		}
	}
}

// All pairs of lists, for the order in which errors come.
func TestP5_1TapsThenStart(t *testing.T) {
	for _, taps := range lists() {
		for _, start := range lists() {
			first := firstOf(errorOf(taps), errorOf(start), when(len(taps) != len(start), api.ErrEqual))
			for _, many := range []int{low, -1, 0, 1, 3, 200, 4096, 4097, high} {
				want := firstOf(first, when(many < 0, api.ErrArg), when(many > 4096, api.ErrMany))
				made, e := wave.Run(taps, start, many)
				if e != want || e != api.OK && made != nil {
					t.Error(taps, start, many, e, "not", want)
				}
				if e == api.OK && !slices.Equal(made, runOf(taps, start, many)) {
					t.Error(taps, start, many, made)
				}
			}
			want := firstOf(first, when(len(taps) > 12, api.ErrMany), when(len(taps) > 0 && taps[max(len(taps), 1)-1] == 0, api.ErrNone))
			n, e := wave.Period(taps, start)
			if e != want || e != api.OK && n != 0 {
				t.Error(taps, start, n, e, "not", want)
			}
			if e == api.OK && n != periodOf(taps, start) {
				t.Error(taps, start, n)
			}
		}
	}
}

func TestP5_1BitsThenTaps(t *testing.T) {
	for _, bits := range lists() {
		for _, taps := range lists() {
			first := firstOf(errorOf(bits), errorOf(taps))
			want := first
			if want == api.OK {
				want = when(!makes(taps, bits), api.ErrSum)
			}
			if e := wave.CheckRegister(bits, taps); e != want {
				t.Error(bits, taps, e, "not", want)
			}
			for _, at := range []int{low, -1, 0, 1, 2, 3, 6, 7, 126, 127, 128, 129, high} {
				p := api.WaveProof{Taps: taps, At: at}
				want := firstOf(first, when(at < 0 || at >= len(bits), api.ErrRange))
				if want == api.OK {
					want = when(!isRight(bits, p), api.ErrSum)
				}
				n, e := wave.CheckProof(bits, p)
				if e != want || e != api.OK && n != 0 || e == api.OK && n != at+1-len(taps) {
					t.Error(bits, p, n, e, "not", want)
				}
			}
		}
	}
}

func TestP5_2Run(t *testing.T) {
	for _, x := range []struct {
		taps, start string
		many        int
		want        string
	}{
		{"11", "01", 8, "01101101"},
		{"11", "01", 0, ""},
		{"11", "01", 1, "0"},
		{"11", "01", 2, "01"},
		{"", "", 5, "00000"},
		{"", "", 0, ""},
		{"1", "1", 4, "1111"},
		{"0", "1", 4, "1000"},
		{"01", "10", 5, "10101"},
		{"10", "01", 5, "01111"},
		{"10", "10", 5, "10000"},
		{"011", "001", 9, "001011100"},
		{"101", "001", 9, "001110100"},
		{"00", "11", 5, "11000"},
	} {
		made, e := wave.Run(bitsOf(x.taps), bitsOf(x.start), x.many)
		if !slices.Equal(made, bitsOf(x.want)) || e != api.OK {
			t.Error(x, made, e)
		}
	}
}

// Registers of all lengths, run on far beyond the words in which their bits are kept.
func TestP5_2RunOfSamples(t *testing.T) {
	r := rand.New(rand.NewSource(5))
	for long := range api.MaxWaveBits + 1 {
		for range 3 {
			taps, start := anyBits(r, long, 2), anyBits(r, long, 2)
			for _, many := range []int{long / 2, long, long + 1, 300, api.MaxLong} {
				made, e := wave.Run(taps, start, many)
				if !slices.Equal(made, runOf(taps, start, many)) || e != api.OK {
					t.Fatal(taps, start, many, made, e)
				}
			}
		}
		one := zeros(long)
		if long == 0 {
			continue
		}
		one[long-1] = 1 // just the oldest bit is taken
		start := anyBits(r, long, 2)
		made, e := wave.Run(one, start, 3*long)
		if !slices.Equal(made, slices.Repeat(start, 3)) || e != api.OK {
			t.Fatal(one, start, made, e)
		}
	}
}

func TestP5_3CheckRegister(t *testing.T) {
	for _, x := range []struct {
		bits, taps string
		e          api.Errno
	}{
		{"", "", api.OK},
		{"", "101", api.OK},
		{"0", "", api.OK},
		{"0000", "", api.OK},
		{"1", "", api.ErrSum},
		{"0001", "", api.ErrSum},
		{"1", "0", api.OK},
		{"1", "1", api.OK},
		{"1111", "1", api.OK},
		{"1110", "1", api.ErrSum},
		{"1000", "0", api.OK},
		{"0011011", "110", api.OK},
		{"0011011", "11", api.ErrSum},
		{"0011011", "010", api.ErrSum},
		{"0011011", "0000000", api.OK},
		{"0011011", "000000", api.ErrSum},
		{"0011011", "00000000", api.OK},
		{"01101101", "11", api.OK},
		{"01101101", "110", api.OK},
		{"01101100", "11", api.ErrSum},
		{"00101110", "011", api.OK},
		{"00101110", "101", api.ErrSum},
	} {
		if e := wave.CheckRegister(bitsOf(x.bits), bitsOf(x.taps)); e != x.e {
			t.Error(x, e)
		}
	}
	for _, bits := range short(6) {
		for _, taps := range short(7) {
			if e := wave.CheckRegister(bits, taps); (e == api.OK) != makes(taps, bits) || e != api.OK && e != api.ErrSum {
				t.Error(bits, taps, e)
			}
		}
	}
}

// A register that is wrong at just one bit, wherever it is.
func TestP5_3CheckRegisterOfSamples(t *testing.T) {
	r := rand.New(rand.NewSource(6))
	for long := range api.MaxWaveBits + 1 {
		taps := anyBits(r, long, 2)
		bits := runOf(taps, anyBits(r, long, 2), api.MaxWaveBits)
		if e := wave.CheckRegister(bits, taps); e != api.OK {
			t.Error(bits, taps, e)
		}
		for i := range bits {
			bits[i] ^= 1
			if e := wave.CheckRegister(bits, taps); (e == api.OK) != makes(taps, bits) || i >= long && e != api.ErrSum {
				t.Error(bits, taps, i, e)
			}
			bits[i] ^= 1
		}
	}
}

func TestP5_3Shortest(t *testing.T) {
	for _, x := range []struct{ bits, taps string }{
		{"0011011", "110"},
		{"111", "1"},
		{"00", ""},
		{"", ""},
		{"01101101", "11"},
		{"10101010", "01"},
		{"1000", "0"},
		{"00101110", "011"},
	} {
		if taps, e := wave.Shortest(bitsOf(x.bits)); !slices.Equal(taps, bitsOf(x.taps)) || e != api.OK {
			t.Error(x, taps, e)
		}
	}
}

// checkShortest holds Shortest and Proof against the complexity, without asking which ones they return.
func checkShortest(t *testing.T, bits []int, complexity int) {
	t.Helper()
	taps, e := wave.Shortest(bits)
	if len(taps) != complexity || !makes(taps, bits) || errorOf(taps) != api.OK || e != api.OK {
		t.Fatal(bits, taps, e, complexity)
	}
	if e := wave.CheckRegister(bits, taps); e != api.OK {
		t.Fatal(bits, taps, e)
	}
	p, e := wave.Proof(bits)
	if complexity == 0 {
		if p.Taps != nil || p.At != 0 || e != api.ErrNone {
			t.Fatal(bits, p, e)
		}
		return
	}
	if e != api.OK || errorOf(p.Taps) != api.OK || p.At < 0 || p.At >= len(bits) || !isRight(bits, p) || p.At+1-len(p.Taps) != complexity {
		t.Fatal(bits, p, e, complexity)
	}
	if n, e := wave.CheckProof(bits, p); n != complexity || e != api.OK {
		t.Fatal(bits, p, n, e)
	}
}

func TestP5_3ShortestOfAllShort(t *testing.T) {
	for _, bits := range short(9) {
		checkShortest(t, bits, leastOf(bits))
	}
	for _, bits := range short(12) {
		checkShortest(t, bits, complexityOf(bits))
	}
}

func TestP5_3ShortestOfSamples(t *testing.T) {
	for _, bits := range append(samples(2, api.MaxWaveBits), lonely()...) {
		checkShortest(t, bits, complexityOf(bits))
	}
	if taps, e := wave.Shortest(zeros(127, 1)); len(taps) != 128 || e != api.OK {
		t.Error(taps, e)
	}
}

func TestP5_4Profile(t *testing.T) {
	for _, x := range []struct {
		bits string
		want []int
	}{
		{"", []int{0}},
		{"0", []int{0, 0}},
		{"1", []int{0, 1}},
		{"00", []int{0, 0, 0}},
		{"01", []int{0, 0, 2}},
		{"10", []int{0, 1, 1}},
		{"0011011", []int{0, 0, 0, 3, 3, 3, 3, 3}},
		{"1110", []int{0, 1, 1, 1, 3}},
		{"1101", []int{0, 1, 1, 2, 2}},
	} {
		if profile, e := wave.Profile(bitsOf(x.bits)); !slices.Equal(profile, x.want) || e != api.OK {
			t.Error(x, profile, e)
		}
	}
	if profile, e := wave.Profile(zeros(127, 1)); !slices.Equal(profile, zeros(128, 128)) || e != api.OK {
		t.Error(profile, e)
	}
}

func TestP5_4ProfileOfAll(t *testing.T) {
	for _, bits := range short(8) {
		var want []int
		for i := range len(bits) + 1 {
			want = append(want, leastOf(bits[:i]))
		}
		if profile, e := wave.Profile(bits); !slices.Equal(profile, want) || e != api.OK {
			t.Fatal(bits, profile, e, want)
		}
	}
	for _, bits := range samples(1, 64) {
		var want []int
		for i := range len(bits) + 1 {
			want = append(want, complexityOf(bits[:i]))
		}
		if profile, e := wave.Profile(bits); !slices.Equal(profile, want) || e != api.OK {
			t.Fatal(bits, profile, e, want)
		}
	}
}

func TestP5_5CheckProof(t *testing.T) {
	for _, x := range []struct {
		bits, taps string
		at, want   int
		e          api.Errno
	}{
		{"0011011", "", 2, 3, api.OK},
		{"0011011", "1", 2, 2, api.OK},
		{"0011011", "1", 3, 0, api.ErrSum},
		{"0011011", "", 1, 0, api.ErrSum}, // the bit is right
		{"0011011", "", 3, 0, api.ErrSum}, // one before is wrong
		{"0011011", "", 0, 0, api.ErrSum},
		{"0011011", "", -1, 0, api.ErrRange},
		{"0011011", "", 7, 0, api.ErrRange},
		{"0011011", "", 6, 0, api.ErrSum},
		{"0011011", "000", 3, 1, api.OK},
		{"0011011", "000", 2, 0, api.ErrSum}, // too long for its place
		{"0011011", "110", 6, 0, api.ErrSum},
		{"0011010", "110", 6, 4, api.OK},
		{"0011010", "110", 5, 0, api.ErrSum},
		{"0011010", "110", 7, 0, api.ErrRange},
		{"1", "", 0, 1, api.OK},
		{"0", "", 0, 0, api.ErrSum},
		{"", "", 0, 0, api.ErrRange},
		{"10", "1", 1, 1, api.OK},
		{"10", "0", 1, 0, api.ErrSum},
		{"10", "1", 0, 0, api.ErrSum},
		{"10", "10101010101", 1, 0, api.ErrSum},
	} {
		n, e := wave.CheckProof(bitsOf(x.bits), api.WaveProof{Taps: bitsOf(x.taps), At: x.at})
		if n != x.want || e != x.e {
			t.Error(x, n, e)
		}
	}
	last := api.WaveProof{At: 127}
	if n, e := wave.CheckProof(zeros(127, 1), last); n != 128 || e != api.OK {
		t.Error(n, e)
	}
	if n, e := wave.CheckProof(zeros(127, 1), api.WaveProof{Taps: zeros(127), At: 127}); n != 1 || e != api.OK {
		t.Error(n, e)
	}
}

func TestP5_5CheckProofOfAll(t *testing.T) {
	for _, bits := range short(7) {
		for _, taps := range short(8) {
			for at := -1; at <= len(bits); at++ {
				p := api.WaveProof{Taps: taps, At: at}
				want, wantE := 0, api.ErrRange
				if at >= 0 && at < len(bits) {
					wantE = api.ErrSum
					if isRight(bits, p) {
						want, wantE = at+1-len(taps), api.OK
					}
				}
				if n, e := wave.CheckProof(bits, p); n != want || e != wantE {
					t.Fatal(bits, p, n, e, "not", want, wantE)
				}
			}
		}
	}
}

func TestP5_5Proof(t *testing.T) {
	if p, e := wave.Proof(sample()); len(p.Taps) != 0 || p.At != 2 || e != api.OK {
		t.Error(p, e) // the only one with the bound 3
	}
	for _, bits := range [][]int{nil, {0}, zeros(128)} {
		if p, e := wave.Proof(bits); p.Taps != nil || p.At != 0 || e != api.ErrNone {
			t.Error(bits, p, e)
		}
	}
	if p, e := wave.Proof(zeros(127, 1)); len(p.Taps) != 0 || p.At != 127 || e != api.OK {
		t.Error(p, e)
	}
}

func TestP5_6Period(t *testing.T) {
	for _, x := range []struct {
		taps, start string
		want        int
		e           api.Errno
	}{
		{"11", "01", 3, api.OK},
		{"01", "10", 2, api.OK},
		{"10", "10", 0, api.ErrNone},
		{"10", "00", 0, api.ErrNone},
		{"0", "0", 0, api.ErrNone},
		{"", "", 1, api.OK},
		{"1", "0", 1, api.OK},
		{"1", "1", 1, api.OK},
		{"11", "00", 1, api.OK},
		{"01", "11", 1, api.OK},
		{"01", "01", 2, api.OK},
		{"011", "100", 7, api.OK},
		{"1111", "1000", 5, api.OK},
		{"000000000001", "100000000000", 12, api.OK},
		{"000000000001", "100000100000", 6, api.OK},
		{"000000000001", "101010101010", 2, api.OK},
		{"000000000001", "000000000000", 1, api.OK},
		{"100101000001", "000000000001", 4095, api.OK},
		{"000000000000", "100000000000", 0, api.ErrNone},
		{"0000000000001", "1000000000000", 0, api.ErrMany},
		{"0000000000000", "1000000000000", 0, api.ErrMany},
		{"0000000000000", "100000000000", 0, api.ErrEqual},
		{"1", "", 0, api.ErrEqual},
		{"", "1", 0, api.ErrEqual},
	} {
		taps, start := bitsOf(x.taps), bitsOf(x.start)
		if n, e := wave.Period(taps, start); n != x.want || e != x.e {
			t.Error(x, n, e)
		}
	}
}

func TestP5_6PeriodOfAll(t *testing.T) {
	for long := range 6 {
		for _, taps := range allBits(long) {
			for _, start := range allBits(long) {
				want, wantE := 0, api.ErrNone
				if long == 0 || taps[long-1] == 1 {
					want, wantE = periodOf(taps, start), api.OK
				}
				if n, e := wave.Period(taps, start); n != want || e != wantE {
					t.Fatal(taps, start, n, e, want)
				}
			}
		}
	}
	r := rand.New(rand.NewSource(7))
	for i := range 150 {
		long := 6 + i%7
		taps, start := anyBits(r, long, 2), anyBits(r, long, 2)
		taps[long-1] = 1
		if n, e := wave.Period(taps, start); n != periodOf(taps, start) || e != api.OK {
			t.Fatal(taps, start, n, e)
		}
	}
}

func TestP5_7Full(t *testing.T) {
	three := [][]int{{0, 1, 1}, {1, 0, 1}}
	if full, e := wave.Full(3); !reflect.DeepEqual(full, three) || e != api.OK {
		t.Error(full, e)
	}
	for _, long := range []int{low, -1, 0, 9, 64, high} {
		if full, e := wave.Full(long); full != nil || e != api.ErrArg {
			t.Error(long, full, e)
		}
	}
	counts := []int{1, 1, 2, 2, 6, 6, 18, 16} // the numbers less than 2^L - 1 without a common divisor with it, divided by L
	for i, many := range counts {
		full, e := wave.Full(i + 1)
		if len(full) != many || e != api.OK || !slices.IsSortedFunc(full, slices.Compare) {
			t.Error(i+1, full, e)
		}
		if want := fullOf(i + 1); !reflect.DeepEqual(full, want) {
			t.Error(i+1, full, want)
		}
	}
}

func TestP5_8Spectrum(t *testing.T) {
	for _, x := range []struct {
		bits string
		want []int
		e    api.Errno
	}{
		{"110", []int{3, -1, -1}, api.OK},
		{"10", []int{2, -2}, api.OK},
		{"", nil, api.ErrNone},
		{"0", []int{1}, api.OK},
		{"1", []int{1}, api.OK},
		{"11", []int{2, 2}, api.OK},
		{"1000", []int{4, 0, 0, 0}, api.OK},
		{"1100", []int{4, 0, -4, 0}, api.OK},
		{"11010", []int{5, -3, 1, 1, -3}, api.OK},
	} {
		if spectrum, e := wave.Spectrum(bitsOf(x.bits)); !slices.Equal(spectrum, x.want) || e != x.e {
			t.Error(x, spectrum, e)
		}
	}
	for _, bits := range slices.Concat(short(8)[1:], samples(2, api.MaxWaveBits), lonely()) {
		if len(bits) == 0 {
			continue
		}
		if spectrum, e := wave.Spectrum(bits); !slices.Equal(spectrum, spectrumOf(bits)) || e != api.OK {
			t.Fatal(bits, spectrum, e)
		}
	}
}

// answers are the results of all functions.
func answers(bits, taps, start []int, at int) []any {
	made, e1 := wave.Run(taps, start, at)
	shortest, e2 := wave.Shortest(bits)
	profile, e3 := wave.Profile(bits)
	p, e4 := wave.Proof(bits)
	bound, e5 := wave.CheckProof(bits, api.WaveProof{Taps: taps, At: at})
	period, e6 := wave.Period(taps, start)
	full, e7 := wave.Full(at)
	spectrum, e8 := wave.Spectrum(bits)
	return []any{wave.CheckBits(bits), wave.CheckRegister(bits, taps), made, e1, shortest, e2, profile, e3, p, e4, bound, e5, period, e6, full, e7, spectrum, e8}
}

func TestP1AnyArguments(t *testing.T) {
	ends := []int{low, low + 1, -1, 0, 1, 2, 7, 12, 127, 128, 129, 4096, 4097, 1 << 32, high - 1, high}
	for _, bits := range lists() {
		for _, taps := range lists() {
			for _, at := range ends {
				if at > 1 && at < 9 && len(bits) > 1 {
					continue // Full needs not be asked so often
				}
				answers(bits, taps, bits, at)
			}
		}
	}
	for _, a := range ends {
		for _, b := range ends {
			answers([]int{a, b}, []int{b, a}, []int{a}, b)
			answers([]int{a}, []int{b}, []int{b}, a)
		}
	}
}

// R5 and R10: a call changes no argument, keeps none, its results share no memory, and it is answered in the same way again.
func TestRulesOfMemory(t *testing.T) {
	r := rand.New(rand.NewSource(8))
	for i, bits := range samples(1, 40) {
		taps, start := anyBits(r, 1+i%12, 2), anyBits(r, 1+i%12, 2)
		taps[i%12] = 1
		// behind each list there is room that is not the list's
		room := [][]int{append(bits, 7, 7), append(taps, 7, 7), append(start, 7, 7)}
		bits, taps, start := room[0][:len(bits)], room[1][:len(taps)], room[2][:len(start)]
		kept := [][]int{slices.Clone(room[0]), slices.Clone(room[1]), slices.Clone(room[2])}
		first := answers(bits, taps, start, 4)
		again := answers(bits, taps, start, 4)
		if !reflect.DeepEqual(first, again) {
			t.Fatal("another answer", bits, taps, start, first, again)
		}
		if !reflect.DeepEqual(room, kept) {
			t.Fatal("an argument is changed", room, kept)
		}
		made, _ := wave.Run(taps, start, 6)
		shortest, _ := wave.Shortest(bits)
		profile, _ := wave.Profile(bits)
		p, _ := wave.Proof(bits)
		full, _ := wave.Full(4)
		spectrum, _ := wave.Spectrum(bits)
		for _, l := range append(append(full, room...), made, shortest, profile, p.Taps, spectrum) {
			all := l[:cap(l)]
			for i := range all {
				all[i] = 9
			}
		}
		if again := answers(kept[0][:len(bits)], kept[1][:len(taps)], kept[2][:len(start)], 4); !reflect.DeepEqual(first, again) {
			t.Fatal("a result is kept, or shares memory", bits, taps, start)
		}
	}
}

// Lists of one result share no memory either, not even behind their ends.
func TestFullListsAreApart(t *testing.T) {
	for long := 1; long <= api.MaxWaveTries; long++ {
		full, _ := wave.Full(long)
		for i, taps := range full {
			all := taps[:cap(taps)]
			for k := range all {
				all[k] = 2 + i
			}
		}
		for i, taps := range full {
			for _, tap := range taps {
				if tap != 2+i {
					t.Fatal(long, full)
				}
			}
		}
	}
}

func TestNilIsEmpty(t *testing.T) {
	none := []int{}
	for _, at := range []int{-1, 0, 2} {
		if a, b := answers(nil, nil, nil, at), answers(none, none, none, at); !reflect.DeepEqual(a, b) {
			t.Error(a, b)
		}
		if a, b := answers(sample(), nil, nil, at), answers(sample(), none, none, at); !reflect.DeepEqual(a, b) {
			t.Error(a, b)
		}
	}
}
