package commit_test

import (
	"fmt"
	"math"
	"math/rand"
	"slices"
	"testing"

	"tallystick/api"
	"tallystick/commit"
	"tallystick/tx"
)

// closed asks Close about amounts and a fee, of which the plain words tell what it answers.
func closed(t *testing.T, terms api.Terms, amounts [2]int64, fee int64) (outs int) {
	t.Helper()
	what := fmt.Sprint(terms, amounts, fee)
	want, e := plainClose(terms, amounts, fee)
	x, got := commit.Close(terms, amounts, fee)
	if got != e || !sameTx(x, want) {
		t.Errorf("%s: %d %v\nis not %d %v", what, got, x, e, want)
	}
	if e == api.OK && tx.Check(x) != api.OK {
		t.Error(what, "Check")
	}
	return len(x.Outs)
}

func plainClose(terms api.Terms, amounts [2]int64, fee int64) (api.Tx, api.Errno) {
	if !plainTerms(terms) || !plainMake(terms.Capacity, amounts[0], amounts[1]) || fee < 0 || fee > amounts[0] {
		return api.Tx{}, api.ErrArg
	}
	zero := api.Out{Kind: api.OutPlain, Amount: amounts[0] - fee, Owner: terms.Keys[0]}
	one := api.Out{Kind: api.OutPlain, Amount: amounts[1], Owner: terms.Keys[1]}
	x := api.Tx{Number: maxNumber, Ins: []api.In{{Name: terms.Fund, Index: terms.Index, Way: api.WayBoth}}}
	hasZero, hasOne := zero.Amount >= terms.Dust, one.Amount >= terms.Dust
	switch {
	case hasZero && hasOne && zero.Amount <= one.Amount:
		x.Outs = []api.Out{zero, one}
	case hasZero && hasOne:
		x.Outs = []api.Out{one, zero}
	case hasZero:
		x.Outs = []api.Out{zero}
	case hasOne:
		x.Outs = []api.Out{one}
	default:
		return api.Tx{}, api.ErrBare
	}
	return x, api.OK
}

// P8.3: fees at their bounds, of all amounts of which side 0 may have.
func TestCloseFees(t *testing.T) {
	terms := base()
	c := terms.Capacity
	for _, amount := range []int64{0, 1, 39, 40, 41, 99, 100, 101, 139, 140, 141, c / 2, c - 101, c - 100, c - 99, c - 1, c} {
		for _, fee := range append([]int64{0, 1, 39, 40, 41, amount - 101, amount - 100, amount - 99, amount - 1, amount, amount + 1, c, c + 1, maxAmount, maxAmount + 1}, someWrong...) {
			closed(t, terms, [2]int64{amount, c - amount}, fee)
		}
	}
	// The terms' Fee is not taken, nor need side 0 have it.
	if x, e := commit.Close(terms, [2]int64{39, c - 39}, 0); e != api.OK || len(x.Outs) != 1 || x.Outs[0].Amount != c-39 {
		t.Error(e, x)
	}
	if x, e := commit.Close(terms, [2]int64{c, 0}, 0); e != api.OK || len(x.Outs) != 1 || x.Outs[0].Amount != c {
		t.Error(e, x)
	}
}

// P8.3: amounts that do not make the capacity, or are none.
func TestCloseAmounts(t *testing.T) {
	terms := base()
	c := terms.Capacity
	for _, amounts := range [][2]int64{
		{0, 0}, {c, 1}, {c, -1}, {c + 1, -1}, {-1, c + 1}, {c, c}, {c / 2, c/2 + 1}, {c / 2, c/2 - 1}, {math.MaxInt64, math.MaxInt64}, {math.MinInt64, math.MinInt64},
		{math.MaxInt64, math.MinInt64 + c + 1}, {math.MinInt64 + c + 1, math.MaxInt64}, {maxAmount + 1, c - maxAmount - 1}, {1 << 62, 1 << 62},
	} {
		for _, fee := range []int64{0, 1, -1, math.MaxInt64, math.MinInt64} {
			if outs := closed(t, terms, amounts, fee); outs != 0 {
				t.Error(amounts, fee)
			}
		}
	}
}

// P8.3: what is a bit below Dust has no output; if none is left there is no closing.
func TestCloseDust(t *testing.T) {
	for _, dust := range []int64{1, 2, 100, 499, 500} {
		terms := base()
		terms.Capacity, terms.Dust = 1000, dust
		for near := int64(-1); near <= 1; near++ {
			n := dust + near
			has := 0
			if near >= 0 {
				has = 1
			}
			for _, fee := range []int64{0, 1, 5} {
				side := 1000 - n - fee
				other := 0
				if side >= dust {
					other = 1
				}
				if outs := closed(t, terms, [2]int64{n + fee, side}, fee); outs != has+other {
					t.Error(dust, near, fee, outs)
				}
			}
			if outs := closed(t, terms, [2]int64{1000 - n, n}, 1000-n); outs != has {
				t.Error(dust, near, outs)
			}
		}
	}
	terms := base()
	terms.Capacity, terms.Dust = 1000, 500
	for _, fee := range []int64{102, 500, 600, 601} {
		if x, e := commit.Close(terms, [2]int64{601, 399}, fee); e != api.ErrBare || !isZero(x) {
			t.Error(fee, e)
		}
	}
	if x, e := commit.Close(terms, [2]int64{601, 399}, 101); e != api.OK || len(x.Outs) != 1 {
		t.Error(e)
	}
	if x, e := commit.Close(terms, [2]int64{601, 399}, 602); e != api.ErrArg || !isZero(x) {
		t.Error(e)
	}
}

// P8.3: in order; of like ones that of side 0 is ahead, whichever key is the lesser one.
func TestCloseOrder(t *testing.T) {
	for _, terms := range []api.Terms{base(), swapped(base())} {
		c := terms.Capacity
		for near := int64(-2); near <= 2; near++ {
			for _, fee := range []int64{0, 1, 2, 10} {
				closed(t, terms, [2]int64{c/2 + near, c/2 - near}, fee)
			}
		}
		x, e := commit.Close(terms, [2]int64{c/2 + 5, c/2 - 5}, 10)
		if e != api.OK || len(x.Outs) != 2 || x.Outs[0].Owner != terms.Keys[0] || x.Outs[1].Owner != terms.Keys[1] || x.Outs[0].Amount != x.Outs[1].Amount {
			t.Error(e, x)
		}
	}
}

// P8.3: closings of all that may be, by picks.
func TestCloseRandom(t *testing.T) {
	r := rand.New(rand.NewSource(5))
	for range 5000 {
		terms := randomTerms(r)
		amount := pick(r, 0, terms.Capacity, r.Int63n(terms.Capacity+1), r.Int63n(1000), terms.Capacity-r.Int63n(1000))
		fee := pick(r, 0, amount, r.Int63n(amount+1), amount-terms.Dust, amount-terms.Dust+1, 2*amount-terms.Capacity)
		closed(t, terms, [2]int64{amount, terms.Capacity - amount}, fee)
	}
}

// P8.3: closings share nothing.
func TestCloseApart(t *testing.T) {
	terms := base()
	amounts := [2]int64{terms.Capacity / 2, terms.Capacity / 2}
	x, _ := commit.Close(terms, amounts, 7)
	want := cloned(x)
	y, _ := commit.Close(terms, amounts, 7)
	y.Ins[0].Index, y.Outs[0].Amount = 20, 1
	if !sameTx(x, want) || !slices.Equal(amounts[:], []int64{terms.Capacity / 2, terms.Capacity / 2}) {
		t.Error("shared")
	}
}
