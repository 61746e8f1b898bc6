package secret_test

import (
	"math/rand"
	"slices"
	"testing"

	"tumblehome/api"
	"tumblehome/secret"
)

// computes tells whether Proof says that a row can be computed.
func computes(t *testing.T, b api.SecretBook, row []int64) bool {
	t.Helper()
	_, e := secret.Proof(b, row)
	if e != api.OK && e != api.ErrNone {
		t.Fatal(b, row, e)
	}
	return e == api.OK
}

func rank(t *testing.T, b api.SecretBook) int {
	t.Helper()
	n, e := secret.Rank(b)
	if e != api.OK {
		t.Fatal(b, e)
	}
	return n
}

// hard are books with rows of only great numbers, with which determinants are greatest.
func hard(many int) []api.SecretBook {
	r := rand.New(rand.NewSource(1910))
	var out []api.SecretBook
	for i := range many {
		b := bookOf(api.MaxSecretOffsets)
		for range 2 + i%7 {
			b = with(b, extreme(r, b.Offsets))
		}
		out = append(out, b)
	}
	return out
}

func TestP3_7Kept(t *testing.T) {
	for _, b := range append(append(samples(1000), hard(3000)...), small()...) {
		for _, row := range asked(b, 12) {
			p, e := secret.Proof(b, row)
			l, f := secret.Twin(b, row)
			switch {
			case e == api.OK && f == api.ErrSecret:
				if g := secret.CheckProof(b, row, p); g != api.OK {
					t.Fatal(b, row, p, g)
				}
				if e := secret.CheckTwin(b, row, []int64{1, 0, 0, 0, 0}[:b.Offsets]); e != api.ErrSum {
					t.Fatal(b, row, e)
				}
			case e == api.ErrNone && f == api.OK:
				if g := secret.CheckTwin(b, row, l); g != api.OK {
					t.Fatal(b, row, l, g)
				}
			default:
				t.Fatal(b, row, p, e, l, f)
			}
		}
	}
}

func TestP3_8Told(t *testing.T) {
	r := rand.New(rand.NewSource(23))
	for _, b := range append(samples(1000), hard(1000)...) {
		for _, most := range []int64{1, api.MaxSecretOffset} {
			hull := anyList(r, b.Offsets, most)
			values, e := secret.Publish(b, hull)
			if e != api.OK {
				t.Fatal(b, hull, e)
			}
			for _, row := range asked(b, 8) {
				n, e := secret.Tell(b, values, row)
				switch {
				case !computes(t, b, row):
					if e != api.ErrNone {
						t.Fatal(b, hull, row, n, e)
					}
				case n != (api.Ratio{Num: sumOf(row, hull).Int64(), Den: 1}) || e != api.OK:
					t.Fatal(b, hull, row, n, e)
				}
			}
		}
	}
}

func TestP3_9More(t *testing.T) {
	r := rand.New(rand.NewSource(29))
	for _, b := range append(samples(600), hard(300)...) {
		if len(b.Rows) == api.MaxSecretRows {
			continue
		}
		before := rank(t, b)
		for _, row := range append(asked(b, 4), anyRow(r, b)) {
			more := with(b, row)
			want := before + 1
			if computes(t, b, row) {
				want = before
			}
			if n := rank(t, more); n != want {
				t.Fatal(b, row, n, "not", want)
			}
			if !computes(t, more, row) {
				t.Fatal(b, row)
			}
			for _, l := range asked(b, 8) {
				if computes(t, b, l) && !computes(t, more, l) {
					t.Fatal(b, row, l)
				}
			}
		}
	}
}

// permuted is a list in another order.
func permuted[T any](l []T, order []int) []T {
	var out []T
	for _, i := range order {
		out = append(out, l[i])
	}
	return out
}

func TestP3_10Order(t *testing.T) {
	r := rand.New(rand.NewSource(31))
	for _, b := range append(samples(600), hard(300)...) {
		columns := r.Perm(b.Offsets)
		turned := bookOf(b.Offsets)
		for _, l := range b.Rows {
			turned = with(turned, permuted(l, columns))
		}
		shuffled := bookOf(b.Offsets, permuted(b.Rows, r.Perm(len(b.Rows)))...)
		others := []api.SecretBook{shuffled}
		if len(b.Rows) > 0 {
			i := r.Intn(len(b.Rows))
			signs := with(b)
			for k := range signs.Rows[i] {
				signs.Rows[i][k] *= -1
			}
			others = append(others, signs)
			if len(b.Rows) < api.MaxSecretRows {
				others = append(others, with(b, b.Rows[i]))
			}
		}
		for _, row := range asked(b, 8) {
			want := computes(t, b, row)
			for _, other := range others {
				if computes(t, other, row) != want || rank(t, other) != rank(t, b) {
					t.Fatal(b, other, row, want)
				}
			}
			if computes(t, turned, permuted(row, columns)) != want || rank(t, turned) != rank(t, b) {
				t.Fatal(b, turned, row, want)
			}
		}
	}
}

func TestP3_11Doubt(t *testing.T) {
	r := rand.New(rand.NewSource(37))
	for _, b := range append(samples(600), hard(300)...) {
		hull := anyList(r, b.Offsets, api.MaxSecretOffset)
		values, _ := secret.Publish(b, hull)
		zero := make([]int64, b.Offsets)
		if _, e := secret.Tell(b, values, zero); e != api.OK {
			t.Fatal(b, values, e)
		}
		for i := range b.Rows {
			want := api.OK
			if computes(t, without(b, i), b.Rows[i]) {
				want = api.ErrDoubt
			}
			for _, by := range []int64{1, -1, 12, api.MaxSecretValue / 2} {
				other := slices.Clone(values)
				other[i] += by
				if _, e := secret.Tell(b, other, zero); e != want {
					t.Fatal(b, values, i, by, e)
				}
			}
		}
	}
}
