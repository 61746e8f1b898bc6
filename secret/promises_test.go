package secret_test

import (
	"math/rand"
	"reflect"
	"slices"
	"testing"

	"tumblehome/api"
	"tumblehome/secret"
)

type invalidBook struct {
	b api.SecretBook
	e api.Errno
}

// invalid are books with the error of each.
func invalid() []invalidBook {
	r := row(1, 1)
	return []invalidBook{
		{bookOf(2, slices.Repeat([][]int64{r}, 9)...), api.ErrMany},
		{bookOf(2, slices.Repeat([][]int64{r}, 5000)...), api.ErrMany},
		{bookOf(0, slices.Repeat([][]int64{{9}}, 9)...), api.ErrMany},
		{bookOf(0), api.ErrArg},
		{bookOf(-1), api.ErrArg},
		{bookOf(6), api.ErrArg},
		{bookOf(low), api.ErrArg},
		{bookOf(high), api.ErrArg},
		{bookOf(0, nil), api.ErrArg},
		{bookOf(6, row(1, 1, 1, 1, 1, 1)), api.ErrArg},
		{bookOf(6, row(9)), api.ErrArg},
		{bookOf(2, nil), api.ErrEqual},
		{bookOf(2, row()), api.ErrEqual},
		{bookOf(2, row(1)), api.ErrEqual},
		{bookOf(2, row(1, 1, 1)), api.ErrEqual},
		{bookOf(2, make([]int64, 5000)), api.ErrEqual},
		{bookOf(2, r, r, r, row(1)), api.ErrEqual},
		{bookOf(2, row(9)), api.ErrEqual},
		{bookOf(2, row(9, 9, 9)), api.ErrEqual},
		{bookOf(2, row(1), row(9, 9)), api.ErrEqual},
		{bookOf(2, row(5, 0)), api.ErrRange},
		{bookOf(2, row(0, -5)), api.ErrRange},
		{bookOf(2, row(low, 0)), api.ErrRange},
		{bookOf(2, row(0, high)), api.ErrRange},
		{bookOf(2, r, r, row(1, 5)), api.ErrRange},
		// ErrEqual comes first, whichever of the Rows has which error
		{bookOf(2, row(5, 0), row(1)), api.ErrEqual},
		{bookOf(2, row(1), row(5, 0)), api.ErrEqual},
		{bookOf(2, row(low, 0), nil), api.ErrEqual},
		{bookOf(2, row(0, high), row(1, 1, 1)), api.ErrEqual},
		{bookOf(2, r, row(5, 1), row(1)), api.ErrEqual},
		{bookOf(2, row(5, 1), r, r, r, r, r, r, row(9)), api.ErrEqual},
		// but not before ErrMany and ErrArg
		{bookOf(2, append(slices.Repeat([][]int64{{5, 0}}, 8), row(1))...), api.ErrMany},
		{bookOf(6, row(5, 0), row(1)), api.ErrArg},
	}
}

// All books of up to three Rows of some kinds: one that has a wrong number of numbers decides, wherever it is, before one that is out of range.
func TestP3_1EqualBeforeRange(t *testing.T) {
	kinds := [][]int64{{1, -1}, {4, -4}, {5, 0}, {0, low}, {1}, {9}, {1, 1, 1}, nil}
	books := 1
	for many := range 4 {
		for n := range books {
			b, want := bookOf(2), api.OK
			for range many {
				x := kinds[n%len(kinds)]
				n /= len(kinds)
				b = with(b, x)
				switch {
				case len(x) != 2:
					want = api.ErrEqual
				case want == api.OK && !isWithin(api.MaxSecretTimes, x...):
					want = api.ErrRange
				}
			}
			if e := secret.CheckBook(b); e != want {
				t.Error(b, e, "not", want)
			}
		}
		books *= len(kinds)
	}
}

func TestP3_1CheckBook(t *testing.T) {
	for i, x := range invalid() {
		if e := secret.CheckBook(x.b); e != x.e {
			t.Error(i, e)
		}
	}
	for i, b := range append(samples(50),
		two(), bookOf(1), bookOf(5), bookOf(1, [][]int64{}...), bookOf(1, row(0)), bookOf(1, row(4), row(-4)),
		bookOf(5, slices.Repeat([][]int64{{4, -4, 4, -4, 0}}, 8)...),
	) {
		if e := secret.CheckBook(b); e != api.OK {
			t.Error(i, e)
		}
	}
}

func TestP3_1BookFirst(t *testing.T) {
	for i, x := range invalid() {
		for _, row := range [][]int64{nil, {9, 9}, {1, 1}} {
			if l, e := secret.Publish(x.b, row); len(l) != 0 || e != x.e {
				t.Error("Publish", i, l, e)
			}
			if n, e := secret.Rank(x.b); n != 0 || e != x.e {
				t.Error("Rank", i, n, e)
			}
			for name, e := range errorsOf(t, x.b, row, nil) {
				if e != x.e {
					t.Error(name, i, e)
				}
			}
		}
	}
}

// errorsOf are the errors of all functions with row; what else they need is not valid, but for secrets. With an error there is nothing else.
func errorsOf(t *testing.T, b api.SecretBook, row []int64, secrets [][]int64) map[string]api.Errno {
	t.Helper()
	long := make([]int64, 9)
	p, e1 := secret.Proof(b, row)
	l, e2 := secret.Twin(b, row)
	r, e3 := secret.Tell(b, long, row)
	if e1 != api.OK && (len(p.By) != 0 || p.Times != 0) || e2 != api.OK && len(l) != 0 || e3 != api.OK && r != (api.Ratio{}) {
		t.Error("a result with an error", p, e1, l, e2, r, e3)
	}
	return map[string]api.Errno{"Proof": e1, "Twin": e2, "Tell": e3,
		"CheckProof": secret.CheckProof(b, row, api.SecretProof{By: long}),
		"CheckTwin":  secret.CheckTwin(b, row, long),
		"May":        secret.May(b, row, secrets)}
}

// The error of row comes after that of the book, and before all others.
func TestRowIsChecked(t *testing.T) {
	full := bookOf(3, slices.Repeat([][]int64{{1, 0, 0}}, 8)...)
	for _, b := range []api.SecretBook{two(), bookOf(3), full} {
		for i, x := range []struct {
			row []int64
			e   api.Errno
		}{
			{nil, api.ErrEqual},
			{row(1), api.ErrEqual},
			{row(1, 1), api.ErrEqual},
			{row(9, 9), api.ErrEqual},
			{row(1, 1, 1, 1), api.ErrEqual},
			{row(9, 9, 9, 9), api.ErrEqual},
			{make([]int64, 5000), api.ErrEqual},
			{row(5, 0, 0), api.ErrRange},
			{row(0, -5, 0), api.ErrRange},
			{row(0, 0, low), api.ErrRange},
			{row(0, high, 0), api.ErrRange},
		} {
			for name, e := range errorsOf(t, b, x.row, make([][]int64, 5000)) {
				if e != x.e {
					t.Error(name, i, e)
				}
			}
		}
	}
}

func TestP3_2Publish(t *testing.T) {
	for i, x := range []struct {
		b    api.SecretBook
		hull []int64
		want []int64
		e    api.Errno
	}{
		{two(), row(4, 7, 5), row(11, 12), api.OK},
		{two(), row(-4, 7, -5), row(3, 2), api.OK},
		{with(two(), row(0, 0, 0), row(-4, 4, 1)), row(4, 7, 5), row(11, 12, 0, 17), api.OK},
		{bookOf(3), row(4, 7, 5), nil, api.OK},
		{bookOf(1, row(4), row(-4)), row(100000), row(400000, -400000), api.OK},
		{bookOf(5, row(4, 4, 4, 4, 4), row(4, -4, 4, -4, 4)), slices.Repeat(row(-100000), 5), row(-2000000, -400000), api.OK},
		{two(), nil, nil, api.ErrEqual},
		{two(), row(4, 7), nil, api.ErrEqual},
		{two(), row(4, 7, 5, 0), nil, api.ErrEqual},
		{two(), row(100001, 7), nil, api.ErrEqual},
		{two(), make([]int64, 5000), nil, api.ErrEqual},
		{two(), row(100001, 7, 5), nil, api.ErrRange},
		{two(), row(4, -100001, 5), nil, api.ErrRange},
		{two(), row(4, 7, low), nil, api.ErrRange},
		{two(), row(4, 7, high), nil, api.ErrRange},
		{bookOf(3), row(4, 7, 100001), nil, api.ErrRange},
	} {
		if l, e := secret.Publish(x.b, x.hull); !slices.Equal(l, x.want) || e != x.e {
			t.Error(i, l, e)
		}
	}
	r := rand.New(rand.NewSource(3))
	for _, b := range samples(300) {
		hull := anyList(r, b.Offsets, api.MaxSecretOffset)
		l, e := secret.Publish(b, hull)
		if len(l) != len(b.Rows) || e != api.OK {
			t.Fatal(b, hull, l, e)
		}
		for i, n := range l {
			if sum := sumOf(b.Rows[i], hull); !sum.IsInt64() || n != sum.Int64() {
				t.Fatal(b, hull, l, "not", sum)
			}
		}
	}
}

func TestP3_2Rank(t *testing.T) {
	for i, x := range []struct {
		b    api.SecretBook
		rank int
	}{
		{two(), 2},
		{with(two(), row(1, 2, 1)), 2},
		{with(two(), row(1, 2, 2)), 3},
		{bookOf(3), 0},
		{bookOf(3, row(0, 0, 0), row(0, 0, 0)), 0},
		{bookOf(3, row(0, 0, 0), row(0, 0, 1)), 1},
		{bookOf(3, row(2, 2, 2), row(-3, -3, -3)), 1},
		{bookOf(1, row(4)), 1},
		{bookOf(2, row(2, 4), row(1, 2), row(3, 4)), 2},
		{bookOf(5, row(0, 0, 0, 0, 1), row(0, 0, 0, 1, 1), row(0, 0, 1, 1, 1), row(0, 1, 1, 1, 1), row(1, 1, 1, 1, 1)), 5},
		{bookOf(5, slices.Repeat([][]int64{{4, 4, 4, 4, 4}}, 8)...), 1},
	} {
		if n, e := secret.Rank(x.b); n != x.rank || e != api.OK {
			t.Error(i, n, e)
		}
	}
	for _, b := range append(samples(600), small()...) {
		if n, e := secret.Rank(b); n != rankOf(b.Rows) || e != api.OK {
			t.Fatal(b, n, e)
		}
	}
}

func TestP3_3Proof(t *testing.T) {
	for i, x := range []struct {
		b   api.SecretBook
		row []int64
		e   api.Errno
	}{
		{two(), row(1, 0, -1), api.OK},
		{two(), row(1, 0, 0), api.ErrNone},
		{two(), row(0, 0, 0), api.OK},
		{bookOf(3), row(0, 0, 0), api.OK}, // by nothing
		{bookOf(3), row(0, 0, 1), api.ErrNone},
		{bookOf(3, row(0, 0, 0)), row(0, 0, 0), api.OK},
		{bookOf(3, row(0, 0, 0)), row(0, 0, 1), api.ErrNone},
		{bookOf(1, row(-4)), row(3), api.OK},
		{bookOf(1, row(-4)), row(-3), api.OK},
		{bookOf(2, row(3, 0), row(0, -4)), row(-4, 3), api.OK},
	} {
		p, e := secret.Proof(x.b, x.row)
		if e != x.e || e == api.OK && !isProof(x.b, x.row, p) || e != api.OK && (len(p.By) != 0 || p.Times != 0) {
			t.Error(i, p, e)
		}
	}
	for _, b := range samples(400) {
		for _, row := range asked(b, 12) {
			checkProofOf(t, b, row)
		}
	}
	for _, b := range small() {
		for _, row := range allRows(2, 2) {
			checkProofOf(t, b, row)
		}
	}
}

// Rows with which the numbers of a proof come to be above MaxNumber, unless they are divided by what they have in common on the way.
func TestP3_3ProofOfGreatNumbers(t *testing.T) {
	for _, x := range []struct {
		b   api.SecretBook
		row []int64
	}{
		{bookOf(5, row(-4, 3, -4, -4, 4), row(-3, -4, 4, -4, -4), row(-3, 4, 4, 3, 4), row(-4, -4, -3, 4, 4), row(4, -4, -4, -4, -3)), row(4, -4, 3, -4, 4)},
		{bookOf(5, row(4, 3, 4, -4, 4), row(-3, 4, 4, 4, 4), row(3, 4, -4, 3, 4), row(4, -4, 3, 4, 4), row(4, 4, 3, 4, -4)), row(-3, 2, 1, 2, -3)},
	} {
		checkProofOf(t, x.b, x.row)
		checkTwinOf(t, bookOf(5, x.b.Rows[:4]...), x.row)
		checkTell(t, x.b, row(api.MaxSecretValue, -api.MaxSecretValue, api.MaxSecretValue, 1-api.MaxSecretValue, 7))
	}
}

// checkProofOf checks what Proof returns.
func checkProofOf(t *testing.T, b api.SecretBook, row []int64) {
	t.Helper()
	p, e := secret.Proof(b, row)
	if isComputed(b, row) {
		if e != api.OK || !isProof(b, row, p) {
			t.Fatal(b, row, p, e)
		}
	} else if e != api.ErrNone || len(p.By) != 0 || p.Times != 0 {
		t.Fatal(b, row, p, e)
	}
}

func TestP3_3CheckProof(t *testing.T) {
	const most = api.MaxNumber
	for i, x := range []struct {
		b     api.SecretBook
		row   []int64
		by    []int64
		times int64
		e     api.Errno
	}{
		{two(), row(1, 0, -1), row(1, -1), 1, api.OK},
		{two(), row(2, 2, 0), row(4, 0), 2, api.OK},
		{two(), row(2, 2, 0), row(2, 0), 2, api.ErrSum},
		{two(), row(1, 0, -1), row(1, 1), 1, api.ErrSum},
		{two(), row(1, 0, -1), row(-1, 1), 1, api.ErrSum},
		{two(), row(1, 0, 0), row(1, -1), 1, api.ErrSum}, // wrong at the last offset only
		{two(), row(0, 0, 0), row(0, 0), 7, api.OK},
		{two(), row(1, 0, -1), row(0, 0), 1, api.ErrSum},
		{two(), row(1, 0, -1), row(most, -most), most, api.OK},
		{two(), row(1, 0, -1), row(most, -most), most - 1, api.ErrSum},
		{two(), row(4, 0, -4), row(most, -most), most / 4, api.OK},
		{bookOf(3), row(0, 0, 0), nil, 1, api.OK},
		{bookOf(3), row(0, 0, 0), row(), most, api.OK},
		{bookOf(3), row(0, 0, 1), nil, 1, api.ErrSum},
		{bookOf(1, slices.Repeat([][]int64{{4}}, 8)...), row(4), slices.Repeat(row(most), 8), most, api.ErrSum},
		{bookOf(1, row(4), row(-4), row(4)), row(4), row(most, most, most), most, api.OK},
		{two(), row(1, 0, -1), nil, 1, api.ErrEqual},
		{two(), row(1, 0, -1), row(1), 1, api.ErrEqual},
		{two(), row(1, 0, -1), row(1, -1, 0), 1, api.ErrEqual},
		{two(), row(1, 0, -1), row(most+1, -1, 0), 0, api.ErrEqual},
		{bookOf(3), row(0, 0, 0), row(0), 1, api.ErrEqual},
		{two(), row(1, 0, -1), make([]int64, 5000), 1, api.ErrEqual},
		{two(), row(1, 0, -1), row(1, -1), 0, api.ErrRange},
		{two(), row(1, 0, -1), row(0, 0), 0, api.ErrRange},
		{two(), row(1, 0, -1), row(-1, 1), -1, api.ErrRange},
		{two(), row(1, 0, -1), row(1, -1), most + 1, api.ErrRange},
		{two(), row(1, 0, -1), row(1, -1), low, api.ErrRange},
		{two(), row(1, 0, -1), row(1, -1), high, api.ErrRange},
		{two(), row(1, 0, -1), row(most+1, -1), 1, api.ErrRange},
		{two(), row(1, 0, -1), row(1, -most-1), 1, api.ErrRange},
		{two(), row(1, 0, -1), row(low, 1), 1, api.ErrRange},
		{two(), row(1, 0, -1), row(1, high), 1, api.ErrRange},
	} {
		if e := secret.CheckProof(x.b, x.row, api.SecretProof{By: x.by, Times: x.times}); e != x.e {
			t.Error(i, e)
		}
	}
	r := rand.New(rand.NewSource(11))
	for _, b := range samples(300) {
		for _, row := range asked(b, 8) {
			p, e := secret.Proof(b, row)
			if e != api.OK {
				p = api.SecretProof{By: anyList(r, len(b.Rows), 3), Times: 1 + r.Int63n(3)}
			}
			for _, p := range append(nearProofs(r, p), p) {
				want := api.ErrSum
				if isProof(b, row, p) {
					want = api.OK
				}
				if e := secret.CheckProof(b, row, p); e != want {
					t.Fatal(b, row, p, e)
				}
			}
		}
	}
}

// nearProofs are proofs with a number other than another one has, and with all numbers some times as great.
func nearProofs(r *rand.Rand, p api.SecretProof) []api.SecretProof {
	out := []api.SecretProof{{By: slices.Clone(p.By), Times: p.Times + 1}}
	for i := range p.By {
		out = append(out, api.SecretProof{By: slices.Clone(p.By), Times: p.Times})
		out[len(out)-1].By[i] += 1 - 2*r.Int63n(2)
	}
	times := 1 + r.Int63n(9)
	out = append(out, api.SecretProof{By: slices.Clone(p.By), Times: times * p.Times})
	for i := range p.By {
		out[len(out)-1].By[i] *= times
	}
	return out
}

func TestP3_4Twin(t *testing.T) {
	for i, x := range []struct {
		b   api.SecretBook
		row []int64
		e   api.Errno
	}{
		{two(), row(1, 0, 0), api.OK},
		{two(), row(1, 0, -1), api.ErrSecret},
		{two(), row(0, 0, 0), api.ErrSecret},
		{bookOf(3), row(0, 0, 0), api.ErrSecret},
		{bookOf(3), row(0, 0, 1), api.OK},
		{bookOf(3), row(1, 0, 0), api.OK},
		{bookOf(3, row(0, 0, 0)), row(0, -4, 0), api.OK},
		{bookOf(3, row(0, 0, 4)), row(4, 0, 3), api.OK},
		{bookOf(1, row(4)), row(3), api.ErrSecret},
		{bookOf(2, row(3, 4)), row(4, 3), api.OK},
		{bookOf(2, row(1, 2), row(3, 4)), row(1, 0), api.ErrSecret},
	} {
		l, e := secret.Twin(x.b, x.row)
		if e != x.e || e == api.OK && !isTwin(x.b, x.row, l) || e != api.OK && len(l) != 0 {
			t.Error(i, l, e)
		}
	}
	for _, b := range samples(400) {
		for _, row := range asked(b, 12) {
			checkTwinOf(t, b, row)
		}
	}
	for _, b := range small() {
		for _, row := range allRows(2, 2) {
			checkTwinOf(t, b, row)
		}
	}
}

// checkTwinOf checks what Twin returns.
func checkTwinOf(t *testing.T, b api.SecretBook, row []int64) {
	t.Helper()
	l, e := secret.Twin(b, row)
	if isComputed(b, row) {
		if e != api.ErrSecret || len(l) != 0 {
			t.Fatal(b, row, l, e)
		}
	} else if e != api.OK || !isTwin(b, row, l) {
		t.Fatal(b, row, l, e)
	}
}

func TestP3_4CheckTwin(t *testing.T) {
	const most = api.MaxNumber
	for i, x := range []struct {
		b    api.SecretBook
		row  []int64
		twin []int64
		e    api.Errno
	}{
		{two(), row(1, 0, 0), row(1, -1, 1), api.OK},
		{two(), row(1, 0, 0), row(-3, 3, -3), api.OK},
		{two(), row(1, 0, 0), row(most, -most, most), api.OK},
		{two(), row(1, 0, -1), row(1, -1, 1), api.ErrSum}, // the same sum by the row
		{two(), row(1, 0, 0), row(0, 0, 0), api.ErrSum},
		{two(), row(1, 0, 0), row(1, -1, 0), api.ErrSum}, // another sum by the last of the Rows
		{two(), row(1, 0, 0), row(1, 0, 0), api.ErrSum},
		{two(), row(0, 0, 0), row(1, -1, 1), api.ErrSum},
		{bookOf(3), row(0, 0, 1), row(0, 0, -7), api.OK},
		{bookOf(3), row(0, 0, 1), row(5, 5, 0), api.ErrSum},
		{bookOf(5, row(4, 4, 4, 4, 4)), row(4, 4, 4, 4, 4), slices.Repeat(row(most), 5), api.ErrSum},
		{bookOf(5), row(-4, 4, -4, 4, -4), row(most, -most, most, -most, most), api.OK},
		{two(), row(1, 0, 0), nil, api.ErrEqual},
		{two(), row(1, 0, 0), row(1, -1), api.ErrEqual},
		{two(), row(1, 0, 0), row(1, -1, 1, 0), api.ErrEqual},
		{two(), row(1, 0, 0), row(high, -1), api.ErrEqual},
		{two(), row(1, 0, 0), make([]int64, 5000), api.ErrEqual},
		{two(), row(1, 0, 0), row(most+1, -most-1, most+1), api.ErrRange},
		{two(), row(1, 0, 0), row(1, -1, most+1), api.ErrRange},
		{two(), row(1, 0, 0), row(-most-1, 1, -1), api.ErrRange},
		{two(), row(1, 0, 0), row(low, low, low), api.ErrRange},
		{two(), row(1, 0, 0), row(1, high, 1), api.ErrRange},
		{two(), row(0, 0, 0), row(low, 0, 0), api.ErrRange},
	} {
		if e := secret.CheckTwin(x.b, x.row, x.twin); e != x.e {
			t.Error(i, e)
		}
	}
	r := rand.New(rand.NewSource(13))
	for _, b := range samples(300) {
		for _, row := range asked(b, 8) {
			twins := [][]int64{anyList(r, b.Offsets, 2), anyList(r, b.Offsets, most)}
			if l, e := secret.Twin(b, row); e == api.OK {
				twins = append(twins, l)
				for k := range l {
					other := slices.Clone(l)
					other[k] += 1 - 2*r.Int63n(2)
					twins = append(twins, other)
				}
			}
			for _, l := range twins {
				want := api.ErrSum
				if isTwin(b, row, l) {
					want = api.OK
				}
				if e := secret.CheckTwin(b, row, l); e != want {
					t.Fatal(b, row, l, e)
				}
			}
		}
	}
}

func TestP3_5Tell(t *testing.T) {
	const most = api.MaxSecretValue
	three := with(two(), row(1, 2, 1))
	for i, x := range []struct {
		b      api.SecretBook
		values []int64
		row    []int64
		num    int64
		den    int64
		e      api.Errno
	}{
		{two(), row(11, 12), row(1, 0, -1), -1, 1, api.OK},
		{two(), row(11, 12), row(-1, 0, 1), 1, 1, api.OK},
		{two(), row(11, 12), row(1, 0, 0), 0, 0, api.ErrNone},
		{two(), row(11, 12), row(0, 0, 0), 0, 1, api.OK},
		{two(), row(0, 0), row(1, 0, -1), 0, 1, api.OK},
		{three, row(11, 12, 22), row(1, 1, 0), 0, 0, api.ErrDoubt},
		{three, row(11, 12, 22), row(1, 0, 0), 0, 0, api.ErrDoubt}, // also of a row that can't be computed
		{three, row(11, 12, 22), row(0, 0, 0), 0, 0, api.ErrDoubt},
		{three, row(11, 12, 23), row(1, 1, 0), 11, 1, api.OK},
		{three, row(11, 12, 23), row(1, 0, 0), 0, 0, api.ErrNone},
		{bookOf(3), nil, row(0, 0, 0), 0, 1, api.OK},
		{bookOf(3), row(), row(0, 1, 0), 0, 0, api.ErrNone},
		{bookOf(2, row(0, 0)), row(0), row(0, 0), 0, 1, api.OK},
		{bookOf(2, row(0, 0)), row(1), row(0, 0), 0, 0, api.ErrDoubt},
		{bookOf(2, row(0, 0)), row(1), row(1, 0), 0, 0, api.ErrDoubt},
		// fractions: of offsets that have the values, and of the value
		{bookOf(1, row(4)), row(3), row(1), 3, 4, api.OK},
		{bookOf(1, row(4)), row(3), row(-2), -3, 2, api.OK},
		{bookOf(1, row(-4)), row(3), row(1), -3, 4, api.OK},
		{bookOf(1, row(-4)), row(-6), row(2), 3, 1, api.OK},
		{bookOf(1, row(2), row(4)), row(1, 2), row(3), 3, 2, api.OK},
		{bookOf(1, row(2), row(4)), row(1, 3), row(3), 0, 0, api.ErrDoubt},
		{bookOf(1, row(4), row(3)), row(most, -most), row(3), 0, 0, api.ErrDoubt},
		{bookOf(1, row(1), row(-1)), row(most, -most), row(4), 4 * most, 1, api.OK},
		{bookOf(2, row(4, 3), row(3, 4)), row(most, -most), row(4, -4), 8 * most, 1, api.OK},
		{two(), nil, row(1, 0, -1), 0, 0, api.ErrEqual},
		{two(), row(11), row(1, 0, -1), 0, 0, api.ErrEqual},
		{two(), row(11, 12, 0), row(1, 0, -1), 0, 0, api.ErrEqual},
		{two(), row(most + 1), row(1, 0, -1), 0, 0, api.ErrEqual},
		{bookOf(3), row(0), row(0, 0, 0), 0, 0, api.ErrEqual},
		{three, row(11, 12), row(1, 0, 0), 0, 0, api.ErrEqual},
		{two(), make([]int64, 5000), row(1, 0, -1), 0, 0, api.ErrEqual},
		{two(), row(most+1, 12), row(1, 0, -1), 0, 0, api.ErrRange},
		{two(), row(11, -most-1), row(1, 0, -1), 0, 0, api.ErrRange},
		{two(), row(low, 12), row(1, 0, 0), 0, 0, api.ErrRange},
		{three, row(11, 12, high), row(1, 0, 0), 0, 0, api.ErrRange},
	} {
		if n, e := secret.Tell(x.b, x.values, x.row); n != (api.Ratio{Num: x.num, Den: x.den}) || e != x.e {
			t.Error(i, n, e)
		}
	}
}

func TestP3_5TellOfSamples(t *testing.T) {
	r := rand.New(rand.NewSource(17))
	for _, b := range samples(400) {
		hull := anyList(r, b.Offsets, api.MaxSecretOffset)
		values, e := secret.Publish(b, hull)
		if e != api.OK {
			t.Fatal(b, hull, e)
		}
		checkTell(t, b, values)
		checkTell(t, b, anyList(r, len(b.Rows), 2))
		checkTell(t, b, anyList(r, len(b.Rows), api.MaxSecretValue))
		for range min(3, len(values)) {
			near := slices.Clone(values)
			near[r.Intn(len(near))] += 1 - 2*r.Int63n(2)
			checkTell(t, b, near)
		}
		// also of offsets that are fractions
		for i := range values {
			values[i] = values[i] / 12
		}
		checkTell(t, b, values)
	}
	for _, b := range small() {
		for range 3 {
			checkTell(t, b, anyList(r, len(b.Rows), 4))
		}
	}
}

// checkTell checks what Tell returns for some values and many rows.
func checkTell(t *testing.T, b api.SecretBook, values []int64) {
	t.Helper()
	doubt := contradict(b, values)
	for _, row := range asked(b, 6) {
		n, e := secret.Tell(b, values, row)
		switch {
		case doubt:
			if n != (api.Ratio{}) || e != api.ErrDoubt {
				t.Fatal(b, values, row, n, e, "no doubt")
			}
		case !isComputed(b, row):
			if n != (api.Ratio{}) || e != api.ErrNone {
				t.Fatal(b, values, row, n, e)
			}
		default:
			if want := valueOf(offsetsOf(b, values), row); !same(n, want) || e != api.OK {
				t.Fatal(b, values, row, n, e, "not", want)
			}
		}
	}
}

func TestP3_6May(t *testing.T) {
	one := row(1, 0, 0)
	full := bookOf(3, slices.Repeat([][]int64{{1, 1, 0}}, 8)...)
	seven := bookOf(3, slices.Repeat([][]int64{{1, 1, 0}}, 7)...)
	for i, x := range []struct {
		b       api.SecretBook
		row     []int64
		secrets [][]int64
		e       api.Errno
	}{
		{two(), row(1, 2, 1), [][]int64{one}, api.OK},
		{two(), row(1, 1, 1), [][]int64{one}, api.ErrSecret},
		{two(), one, [][]int64{one}, api.ErrSecret},
		{two(), one, nil, api.OK},
		{two(), one, [][]int64{}, api.OK},
		{two(), row(1, 1, 1), [][]int64{row(1, 0, -1), row(0, 0, 0)}, api.OK}, // as these are told already
		{two(), row(1, 1, 1), [][]int64{row(1, 0, -1), one}, api.ErrSecret},
		{two(), row(0, 0, 0), [][]int64{one, row(0, 1, 0)}, api.OK},
		{two(), row(1, 0, -1), [][]int64{one, row(0, 1, 0)}, api.OK},
		{bookOf(3), one, [][]int64{row(0, 0, 0), row(0, 1, 0), row(1, 1, 0)}, api.OK},
		{bookOf(3), one, [][]int64{row(-4, 0, 0)}, api.ErrSecret},
		{bookOf(3), row(1, 1, 1), [][]int64{one}, api.OK},
		{seven, one, [][]int64{row(0, 0, 1)}, api.OK},
		{seven, one, [][]int64{row(0, 1, 0)}, api.ErrSecret},
		{full, one, nil, api.ErrFull},
		{full, row(1, 1, 0), [][]int64{nil}, api.ErrFull},
		{full, one, slices.Repeat([][]int64{row(9)}, 4097), api.ErrFull},
		{two(), one, slices.Repeat([][]int64{row(1, 0, -1)}, 4096), api.OK},
		{two(), one, append(slices.Repeat([][]int64{row(1, 0, -1)}, 4095), one), api.ErrSecret},
		{two(), one, slices.Repeat([][]int64{row(1, 0, -1)}, 4097), api.ErrMany},
		{two(), one, make([][]int64, 4097), api.ErrMany},
		{two(), one, [][]int64{nil}, api.ErrEqual},
		{two(), one, [][]int64{row(9, 9)}, api.ErrEqual},
		{two(), one, [][]int64{one, row(1, 0, 0, 0)}, api.ErrEqual}, // before a secret that is told
		{two(), one, [][]int64{row(1, 0), row(9, 0, 0)}, api.ErrEqual},
		{two(), one, [][]int64{row(9, 0, 0), row(1, 0)}, api.ErrRange},
		{two(), one, [][]int64{one, row(0, 0, -5)}, api.ErrRange},
		{two(), one, [][]int64{row(0, low, 0)}, api.ErrRange},
		{two(), one, [][]int64{row(0, 0, high)}, api.ErrRange},
	} {
		if e := secret.May(x.b, x.row, x.secrets); e != x.e {
			t.Error(i, e)
		}
	}
	r := rand.New(rand.NewSource(19))
	for _, b := range samples(400) {
		if len(b.Rows) == api.MaxSecretRows {
			continue
		}
		row := anyRow(r, b)
		more := with(b, row)
		for _, l := range asked(more, 6) {
			want := api.OK
			if isComputed(more, l) && !isComputed(b, l) {
				want = api.ErrSecret
			}
			if e := secret.May(b, row, [][]int64{l}); e != want {
				t.Fatal(b, row, l, e)
			}
		}
	}
}

// answers is what all functions return.
func answers(b api.SecretBook, row, list []int64, times int64, secrets [][]int64) []any {
	a, e1 := secret.Publish(b, list)
	c, e2 := secret.Rank(b)
	d, e3 := secret.Proof(b, row)
	f, e4 := secret.Twin(b, row)
	g, e5 := secret.Tell(b, list, row)
	return []any{secret.CheckBook(b), a, e1, c, e2, d, e3, f, e4, g, e5,
		secret.CheckProof(b, row, api.SecretProof{By: list, Times: times}),
		secret.CheckTwin(b, row, list), secret.May(b, row, secrets)}
}

// P1: every function ends without a panic, whatever it is given.
func TestP1AnyArguments(t *testing.T) {
	ends := []int64{low, low + 1, -5, -4, -1, 0, 1, 2, 3, 4, 5, 6, api.MaxNumber, high - 1, high}
	for _, a := range ends {
		for _, b := range ends {
			for _, c := range ends {
				answers(bookOf(int(a), row(b, c)), row(c, a), row(b), c, [][]int64{{a, b}})
				answers(bookOf(2, row(a, b), row(2, 1)), row(c, 1), row(a, c), b, [][]int64{{1, 1}})
				answers(bookOf(2, row(1, 1)), row(a, b), row(c), a, [][]int64{{b, c}, nil})
				answers(bookOf(2, row(1, 1), row(1, 2)), row(1, -1), row(a, b), c, nil)
			}
		}
	}
	answers(api.SecretBook{}, nil, nil, 0, nil)
	answers(bookOf(5, make([][]int64, 8)...), nil, nil, 1, make([][]int64, 5000))
}

// R3, R5 and R10: nil lists are as good as empty ones, a call changes no argument and shares no memory, and is answered in the same way again.
func TestRulesOfMemory(t *testing.T) {
	for _, b := range append(samples(200), two()) {
		for _, row := range asked(b, 3) {
			secrets := asked(b, 2)
			b2, row2, secrets2 := with(b), slices.Clone(row), listsOf(secrets)
			first := answers(b, row, row, 1, secrets)
			again := answers(b, row, row, 1, secrets)
			if !reflect.DeepEqual(b, b2) || !reflect.DeepEqual(row, row2) || !reflect.DeepEqual(secrets, secrets2) {
				t.Fatal("an argument is changed", b2, row2)
			}
			if !reflect.DeepEqual(first, again) {
				t.Fatal("another answer", b, row, first, again)
			}
			values := make([]int64, len(b.Rows))
			sums, _ := secret.Publish(b, row)
			p, _ := secret.Proof(b, row)
			l, _ := secret.Twin(b, row)
			_, _ = secret.Tell(b, values, row)
			for _, list := range append(b.Rows, row, sums, p.By, l, values) {
				for i := range list {
					list[i] = 9
				}
				_ = append(list, 9)
			}
			copy(row, row2)
			for i := range b.Rows {
				copy(b.Rows[i], b2.Rows[i])
			}
			if again := answers(b2, row2, row2, 1, secrets2); !reflect.DeepEqual(first, again) {
				t.Fatal("a result is kept, or shares memory", b2, row2)
			}
		}
	}
}

// A row that is asked for comes behind the Rows without being written into their memory.
func TestMayKeepsRoomBehindRows(t *testing.T) {
	room := [][]int64{{1, 1, 0}, {0, 1, 1}, {4, 4, 4}}
	if e := secret.May(bookOf(3, room[:2]...), row(1, 2, 1), nil); e != api.OK || !slices.Equal(room[2], row(4, 4, 4)) {
		t.Error(room, e)
	}
}

func TestNilIsEmpty(t *testing.T) {
	a := answers(api.SecretBook{Offsets: 1}, row(0), nil, 1, nil)
	b := answers(api.SecretBook{Offsets: 1, Rows: [][]int64{}}, row(0), row(), 1, [][]int64{})
	if !reflect.DeepEqual(a, b) {
		t.Error(a, b)
	}
}
