package money_test

import (
	"iter"
	"math"
	"math/big"
	"math/rand"
	"slices"
	"strconv"
	"strings"
	"testing"

	"tallystick/api"
	"tallystick/money"
)

const (
	most    = api.MaxAmount
	maxRate = 1000000
)

// amounts stand at the bounds, about the coin, and where products with rates leave 64 bits or are just whole.
var amounts = []int64{0, 1, 2, 3, 7, 999, 1000, 1001, 5000, 999999, 1000000, 1000001, 99999999, 100000000, 100000001, 150000000, 1<<31 - 1, 1 << 32, 1<<44 - 1, 18446744073710, most / 2, most/2 + 1, most - 1000000, most - 2, most - 1, most}

// noAmounts are such that are none.
var noAmounts = []int64{-1, -2, -most, math.MinInt32, math.MinInt64, math.MinInt64 + 1, most + 1, most + 2, 2 * most, math.MaxInt64 - 1, math.MaxInt64}

var rates = []int64{0, 1, 2, 3, 10, 999, 1000, 1001, 333333, 499999, 500000, 500001, 999998, 999999, maxRate}

var noRates = []int64{-1, -2, math.MinInt64, maxRate + 1, maxRate + 2, most, math.MaxInt64}

// refusedLists are amounts among which one is none, at each place of lists that are otherwise right, and of such whose sum leaves the amounts.
func refusedLists() [][]int64 {
	var lists [][]int64
	for _, n := range noAmounts {
		for _, right := range [][]int64{nil, {0}, {1, 2, 3}, {most, most}, {0, most, 1}} {
			for place := range len(right) + 1 {
				lists = append(lists, slices.Insert(slices.Clone(right), place, n))
			}
		}
	}
	// One that is none may bring the sum back among the amounts.
	return append(lists, []int64{most, 1, -1}, []int64{-1, 1}, []int64{-5, 5, 5}, []int64{most + 1, -1}, []int64{-1, most, 1})
}

func copies(n int64, many int) []int64 { return slices.Repeat([]int64{n}, many) }

// plainSum is the sum of numbers, however great it is.
func plainSum(l ...int64) *big.Int {
	sum := new(big.Int)
	for _, n := range l {
		sum.Add(sum, big.NewInt(n))
	}
	return sum
}

// plainShare is the chapter's: the product, divided, downwards.
func plainShare(amount, rate int64) int64 {
	product := new(big.Int).Mul(big.NewInt(amount), big.NewInt(rate))
	return product.Div(product, big.NewInt(1000000)).Int64()
}

// plainAnswer is a sum as it is answered.
func plainAnswer(sum *big.Int) (int64, api.Errno) {
	switch {
	case sum.Cmp(big.NewInt(most)) > 0:
		return 0, api.ErrOver
	case sum.Sign() < 0:
		return 0, api.ErrUnder
	}
	return sum.Int64(), api.OK
}

// plainText is an amount's text, made of its digits.
func plainText(amount int64) string {
	s := strconv.FormatInt(amount, 10)
	for len(s) < 9 {
		s = "0" + s
	}
	s = s[:len(s)-8] + "." + s[len(s)-8:]
	for strings.HasSuffix(s, "0") {
		s = s[:len(s)-1]
	}
	return strings.TrimSuffix(s, ".")
}

// somePicks makes numbers of all sizes up to a bound, the same at each call.
func somePicks(seed int64, bound int64) func() int64 {
	r := rand.New(rand.NewSource(seed))
	return func() int64 {
		n := r.Int63n(bound + 1)
		return n >> r.Intn(51)
	}
}

// P5.1: Check at the bounds.
func TestCheck(t *testing.T) {
	if e := money.Check(); e != api.OK {
		t.Error(e)
	}
	if e := money.Check(amounts...); e != api.OK {
		t.Error(e)
	}
	for _, n := range amounts {
		if e := money.Check(n); e != api.OK {
			t.Error(n, e)
		}
	}
	if e := money.Check(copies(most, 20000)...); e != api.OK {
		t.Error("many", e)
	}
	for _, l := range refusedLists() {
		if e := money.Check(l...); e != api.ErrArg {
			t.Error(l, e)
		}
	}
}

// P5.1: Add, held against sums that don't leave 64 bits.
func TestAdd(t *testing.T) {
	for _, l := range [][]int64{nil, {}, {0}, {0, 0}, {1, 2, 3}, {most}, {most, 0, 0}, {0, most}, {most - 1, 1}, {most / 2, most / 2}, {most/2 + 1, most/2 - 1}, copies(1, 5000), copies(1<<37, 1<<13)} {
		want, f := plainAnswer(plainSum(l...))
		if n, e := money.Add(l...); n != want || e != f || e != api.OK {
			t.Errorf("%d of them: %d %d, not %d", len(l), n, e, want)
		}
	}
	for _, a := range amounts {
		for _, b := range amounts {
			want, f := plainAnswer(plainSum(a, b))
			if n, e := money.Add(a, b); n != want || e != f {
				t.Errorf("%d %d: %d %d, not %d %d", a, b, n, e, want, f)
			}
		}
	}
}

// P5.1: sums above the greatest amount, also such as go round in 64 bits, at whatever place they leave.
func TestAddOver(t *testing.T) {
	for _, l := range [][]int64{{most, 1}, {1, most}, {most, most}, {most/2 + 1, most / 2}, {1, most - 1, 1}, {most, 1, 0, 0}, {0, most, 0, 1},
		copies(most, 1<<13-1), copies(most, 1<<13), copies(most, 1<<13+1), copies(most, 1<<14), append(copies(most, 1<<14), 5), copies(most, 1<<15)} {
		if n, e := money.Add(l...); n != 0 || e != api.ErrOver {
			t.Errorf("%d of them: %d %d", len(l), n, e)
		}
	}
}

// P5.1: what is no amount counts more than a sum that leaves them.
func TestAddWrong(t *testing.T) {
	for _, l := range refusedLists() {
		if n, e := money.Add(l...); n != 0 || e != api.ErrArg {
			t.Error(l, n, e)
		}
	}
}

// P5.1: Less, held against sums that don't leave 64 bits.
func TestLess(t *testing.T) {
	for _, a := range amounts {
		if n, e := money.Less(a); n != a || e != api.OK {
			t.Error(a, n, e)
		}
		for _, b := range amounts {
			for _, c := range amounts {
				want, f := plainAnswer(plainSum(a, -b, -c))
				if n, e := money.Less(a, b, c); n != want || e != f {
					t.Fatalf("%d less %d, %d: %d %d, not %d %d", a, b, c, n, e, want, f)
				}
			}
		}
	}
	if n, e := money.Less(5, 6); n != 0 || e != api.ErrUnder {
		t.Error(n, e)
	}
	if n, e := money.Less(most, copies(1<<37, 1<<13)...); n != 0 || e != api.OK {
		t.Error(n, e)
	}
}

// P5.1: what is taken off may be above the greatest amount in all, and go round in 64 bits.
func TestLessUnder(t *testing.T) {
	for _, a := range []int64{0, 1, 5, most - 1, most} {
		for _, l := range [][]int64{{most, 1}, {1, most}, {most, most}, {0, most, 1, 0}, copies(most, 1<<13), copies(most, 1<<14), append(copies(most, 1<<14), 1), copies(most, 1<<15)} {
			if n, e := money.Less(a, l...); n != 0 || e != api.ErrUnder {
				t.Errorf("%d less %d of them: %d %d", a, len(l), n, e)
			}
		}
	}
}

// P5.1: what is no amount counts more than what is below 0.
func TestLessWrong(t *testing.T) {
	for _, l := range refusedLists() {
		for _, a := range []int64{0, 5, most, -1, most + 1} {
			if n, e := money.Less(a, l...); n != 0 || e != api.ErrArg {
				t.Error(a, l, n, e)
			}
		}
	}
	for _, a := range noAmounts {
		for _, l := range [][]int64{nil, {0}, {1}, {most}, {most, most}} {
			if n, e := money.Less(a, l...); n != 0 || e != api.ErrArg {
				t.Error(a, l, n, e)
			}
		}
	}
}

// P5.1: Mid; both together may be above the greatest amount.
func TestMid(t *testing.T) {
	for _, a := range amounts {
		for _, b := range amounts {
			want := plainSum(a, b)
			if n, e := money.Mid(a, b); n != want.Rsh(want, 1).Int64() || e != api.OK {
				t.Error(a, b, n, e)
			}
		}
		for _, b := range noAmounts {
			if n, e := money.Mid(a, b); n != 0 || e != api.ErrArg {
				t.Error(a, b, n, e)
			}
			if n, e := money.Mid(b, a); n != 0 || e != api.ErrArg {
				t.Error(b, a, n, e)
			}
		}
	}
	if n, e := money.Mid(-1, -1); n != 0 || e != api.ErrArg {
		t.Error(n, e)
	}
	rows := []struct{ a, b, mid int64 }{{0, 0, 0}, {0, 1, 0}, {1, 0, 0}, {1, 2, 1}, {3, 4, 3}, {most, most, most}, {most - 1, most, most - 1}, {0, most, most / 2}}
	for _, x := range rows {
		if n, e := money.Mid(x.a, x.b); n != x.mid || e != api.OK {
			t.Error(x, n, e)
		}
	}
}

// P5.2: Share, held against products of any size.
func TestShare(t *testing.T) {
	rows := []struct{ amount, rate, share int64 }{{5000, 1000, 5}, {999, 1000, 0}, {1000, 1000, 1}, {999999, 1, 0}, {1000000, 1, 1}, {1, 999999, 0}, {1, 1000000, 1}, {most, maxRate, most}, {most, 999999, most - 1125899907}, {most, 0, 0}, {0, maxRate, 0}}
	for _, x := range rows {
		if n, e := money.Share(x.amount, x.rate); n != x.share || e != api.OK {
			t.Error(x, n, e)
		}
	}
	for _, amount := range amounts {
		for _, rate := range rates {
			if n, e := money.Share(amount, rate); n != plainShare(amount, rate) || e != api.OK {
				t.Error(amount, rate, n, e)
			}
		}
	}
	amount, rate := somePicks(1, most), somePicks(2, maxRate)
	for range 20000 {
		a, r := amount(), rate()
		if n, e := money.Share(a, r); n != plainShare(a, r) || e != api.OK {
			t.Fatal(a, r, n, e)
		}
	}
}

// P5.2: what is no amount, no rate, of each call that takes a fee.
func TestFeesWrong(t *testing.T) {
	refuse := func(f api.Fee, amount int64) {
		t.Helper()
		if n, e := money.Take(f, amount); n != 0 || e != api.ErrArg {
			t.Error("take", f, amount, n, e)
		}
		if n, e := money.Send(f, amount); n != 0 || e != api.ErrArg {
			t.Error("send", f, amount, n, e)
		}
		if l, e := money.Route(amount, f); l != nil || e != api.ErrArg {
			t.Error("route", f, amount, l, e)
		}
	}
	for _, none := range noAmounts {
		for _, rate := range rates {
			if n, e := money.Share(none, rate); n != 0 || e != api.ErrArg {
				t.Error(none, rate, n, e)
			}
			refuse(api.Fee{Rate: rate}, none)
			refuse(api.Fee{Base: most, Rate: rate}, none)
			refuse(api.Fee{Base: none, Rate: rate}, 0)
			refuse(api.Fee{Base: none, Rate: rate}, most)
		}
	}
	for _, none := range noRates {
		for _, amount := range amounts {
			if n, e := money.Share(amount, none); n != 0 || e != api.ErrArg {
				t.Error(amount, none, n, e)
			}
			refuse(api.Fee{Rate: none}, amount)
			refuse(api.Fee{Base: most, Rate: none}, amount)
		}
		if n, e := money.Share(-1, none); n != 0 || e != api.ErrArg {
			t.Error(none, n, e)
		}
	}
}

// P5.2: Take and Send, held against sums of any size.
func TestTakeSend(t *testing.T) {
	for _, base := range amounts {
		for _, rate := range rates {
			for _, amount := range amounts {
				f, share := api.Fee{Base: base, Rate: rate}, plainShare(amount, rate)
				taken, e := plainAnswer(plainSum(base, share))
				if n, f := money.Take(f, amount); n != taken || e != f {
					t.Fatal("take", base, rate, amount, n, f)
				}
				sent, e := plainAnswer(plainSum(amount, base, share))
				if n, f := money.Send(f, amount); n != sent || e != f {
					t.Fatal("send", base, rate, amount, n, f)
				}
			}
		}
	}
}

// P5.2: Take and Send in rows: the chapter's, at the bound, and one past it.
func TestTakeSendRows(t *testing.T) {
	rows := []struct {
		base, rate, amount, taken, sent int64
		take, send                      api.Errno
	}{
		{1, 1000, 5000, 6, 5006, api.OK, api.OK},
		{0, 0, 0, 0, 0, api.OK, api.OK},
		{0, 0, most, 0, most, api.OK, api.OK},
		{most, 0, 0, most, most, api.OK, api.OK},
		{most, maxRate, 0, most, most, api.OK, api.OK},
		{most, 0, 1, most, 0, api.OK, api.ErrOver},
		{0, 1, most, 1125899906, 0, api.OK, api.ErrOver},
		{0, maxRate, most / 2, most / 2, most, api.OK, api.OK},
		{0, maxRate, most/2 + 1, most/2 + 1, 0, api.OK, api.ErrOver},
		{1, maxRate, most / 2, most/2 + 1, 0, api.OK, api.ErrOver},
		{0, maxRate, most, most, 0, api.OK, api.ErrOver},
		{1, maxRate, most, 0, 0, api.ErrOver, api.ErrOver},
		{most, maxRate, most, 0, 0, api.ErrOver, api.ErrOver},
		{most, 1, 999999, most, 0, api.OK, api.ErrOver},
		{most, 1, 1000000, 0, 0, api.ErrOver, api.ErrOver},
	}
	for _, x := range rows {
		f := api.Fee{Base: x.base, Rate: x.rate}
		if n, e := money.Take(f, x.amount); n != x.taken || e != x.take {
			t.Error("take", x, n, e)
		}
		if n, e := money.Send(f, x.amount); n != x.sent || e != x.send {
			t.Error("send", x, n, e)
		}
	}
}

// P5.2: Route's rows.
func TestRouteRows(t *testing.T) {
	free, little, whole := api.Fee{}, api.Fee{Base: 1, Rate: 1000}, api.Fee{Rate: maxRate}
	rows := []struct {
		amount int64
		fees   []api.Fee
		sent   []int64
		e      api.Errno
	}{
		{5000, []api.Fee{free, little}, []int64{5006, 5006, 5000}, api.OK},
		{5000, []api.Fee{little, free}, []int64{5006, 5000, 5000}, api.OK},
		{5000, []api.Fee{little, little}, []int64{5012, 5006, 5000}, api.OK},
		{5000, []api.Fee{{Base: 7}, little, {Base: 1000, Rate: 500000}}, []int64{8516, 8509, 8500, 5000}, api.OK},
		{5000, nil, []int64{5000}, api.OK},
		{0, nil, []int64{0}, api.OK},
		{most, nil, []int64{most}, api.OK},
		{most, []api.Fee{free, free}, []int64{most, most, most}, api.OK},
		{most / 4, []api.Fee{whole, whole}, []int64{most, most / 2, most / 4}, api.OK},
		{most/4 + 1, []api.Fee{whole, whole}, nil, api.ErrOver},
		{most, []api.Fee{free, little}, nil, api.ErrOver},
		{most, []api.Fee{little, free}, nil, api.ErrOver},
		{1, []api.Fee{{Base: 1}, {Base: most - 1}}, nil, api.ErrOver},
		{0, []api.Fee{{Base: 1}, {Base: most - 1}}, []int64{most, most - 1, 0}, api.OK},
		{-1, nil, nil, api.ErrArg},
		{most + 1, nil, nil, api.ErrArg},
	}
	for _, x := range rows {
		if l, e := money.Route(x.amount, x.fees...); !slices.Equal(l, x.sent) || e != x.e || e != api.OK && l != nil {
			t.Error(x, l, e)
		}
	}
}

// P5.2: Route, held against Send, step by step, and against Take, which tells what comes.
func TestRoute(t *testing.T) {
	amount, base, rate := somePicks(3, most), somePicks(4, most/8), somePicks(5, maxRate)
	for many := range 400 {
		a, fees := amount(), make([]api.Fee, many%12)
		for i := range fees {
			fees[i] = api.Fee{Base: base(), Rate: rate()}
		}
		want, e := []int64{a}, api.OK
		for i := len(fees) - 1; i >= 0 && e == api.OK; i-- {
			var sent int64
			sent, e = money.Send(fees[i], want[0])
			want = append([]int64{sent}, want...)
		}
		if e != api.OK {
			want = nil
		}
		l, f := money.Route(a, fees...)
		if !slices.Equal(l, want) || e != f {
			t.Fatal(a, fees, l, f)
		}
		for i := 1; i < len(l); i++ {
			taken, _ := money.Take(fees[i-1], l[i])
			if n, e := money.Less(l[i-1], taken); n != l[i] || e != api.OK {
				t.Fatal("what comes", a, fees, i)
			}
		}
	}
	l, e := money.Route(3, make([]api.Fee, 5000)...)
	if !slices.Equal(l, copies(3, 5001)) || e != api.OK {
		t.Error("many fees", len(l), e)
	}
}

// P5.2: of a route, what may not be counts more than what is too much, wherever either stands.
func TestRouteWrong(t *testing.T) {
	over := api.Fee{Base: most, Rate: maxRate}
	for _, none := range []api.Fee{{Base: -1}, {Base: most + 1}, {Base: math.MinInt64}, {Rate: -1}, {Rate: maxRate + 1}, {Rate: math.MaxInt64}, {Base: -1, Rate: -1}} {
		for place := range 4 {
			for _, right := range []api.Fee{{}, over} {
				fees := slices.Insert(slices.Repeat([]api.Fee{right}, 3), place, none)
				for _, amount := range []int64{0, 1, most} {
					if l, e := money.Route(amount, fees...); l != nil || e != api.ErrArg {
						t.Error(amount, fees, l, e)
					}
				}
			}
		}
	}
	for _, none := range noAmounts {
		if l, e := money.Route(none, over, over); l != nil || e != api.ErrArg {
			t.Error(none, l, e)
		}
	}
}

// P5.2: what is handed in stays as it is, and answers share nothing.
func TestApart(t *testing.T) {
	fees := []api.Fee{{Base: 1, Rate: 2}, {Base: 3, Rate: 4}, {Base: 5, Rate: 6}}
	list := []int64{7, 8, 9}
	given, was := slices.Clone(fees), slices.Clone(list)
	money.Check(list[:2]...)
	money.Add(list[:2]...)
	money.Less(99, list[:2]...)
	one, _ := money.Route(5000, fees[:2]...)
	two, _ := money.Route(5000, fees[:2]...)
	clear(one[:cap(one)])
	if !slices.Equal(fees, given) || !slices.Equal(list, was) || !slices.Equal(two, []int64{5004, 5003, 5000}) {
		t.Error(fees, list, two)
	}
}

func collect(seq iter.Seq2[int, int64]) (places []int, parts []int64) {
	for place, part := range seq {
		places, parts = append(places, place), append(parts, part)
	}
	return
}

// P5.3, P5.4: Parts: as many as are asked for, numbered from 0 on, the greater ones first; they make the amount, and no two are more than 1 apart.
func TestParts(t *testing.T) {
	for _, amount := range amounts {
		for _, many := range []int{1, 2, 3, 7, 8, 500, 999, 1000} {
			places, parts := collect(money.Parts(amount, many))
			if len(parts) != many {
				t.Fatal(amount, many, len(parts))
			}
			for i, part := range parts {
				want := amount / int64(many)
				if int64(i) < amount%int64(many) {
					want++
				}
				if places[i] != i || part != want {
					t.Fatal(amount, many, i, part)
				}
			}
			if sum, e := money.Add(parts...); sum != amount || e != api.OK || parts[0]-parts[many-1] > 1 {
				t.Error(amount, many, sum, e)
			}
		}
	}
	rows := []struct {
		amount int64
		many   int
		parts  []int64
	}{{10, 3, []int64{4, 3, 3}}, {11, 3, []int64{4, 4, 3}}, {12, 3, []int64{4, 4, 4}}, {2, 4, []int64{1, 1, 0, 0}}, {0, 3, []int64{0, 0, 0}}, {5, 1, []int64{5}}, {most, 1, []int64{most}}}
	for _, x := range rows {
		if _, parts := collect(money.Parts(x.amount, x.many)); !slices.Equal(parts, x.parts) {
			t.Error(x, parts)
		}
	}
}

// P5.3: of what may not be there are no parts.
func TestPartsNone(t *testing.T) {
	none := func(amount int64, many int) {
		t.Helper()
		seq := money.Parts(amount, many)
		if seq == nil {
			t.Fatal("no iterator", amount, many)
		}
		for range seq {
			t.Fatal("a part", amount, many)
		}
	}
	for _, many := range []int{0, -1, -1000, math.MinInt, 1001, 1 << 32, 1<<32 + 1, math.MaxInt} {
		for _, amount := range []int64{0, 5, most, -1, most + 1} {
			none(amount, many)
		}
	}
	for _, amount := range noAmounts {
		for _, many := range []int{1, 2, 1000} {
			none(amount, many)
		}
	}
}

// P5.3: parts are left at any place, and gone over again from the first on, also in the midst of them.
func TestPartsAgain(t *testing.T) {
	seq := money.Parts(11, 4)
	want := []int64{3, 3, 3, 2}
	for left := 1; left <= len(want); left++ {
		var parts []int64
		for _, part := range seq {
			parts = append(parts, part)
			if len(parts) == left {
				break
			}
		}
		if !slices.Equal(parts, want[:left]) {
			t.Error("left", left, parts)
		}
		if places, all := collect(seq); !slices.Equal(all, want) || !slices.Equal(places, []int{0, 1, 2, 3}) {
			t.Error("again behind", left, places, all)
		}
	}
	for place, part := range seq {
		if _, all := collect(seq); !slices.Equal(all, want) || part != want[place] {
			t.Error("in the midst", place, part, all)
		}
	}
}

// P5.3, P5.4: Text at the bounds and about each place of the units, and Parse the way back.
func TestText(t *testing.T) {
	rows := []struct {
		amount int64
		text   string
	}{
		{0, "0"}, {1, "0.00000001"}, {5, "0.00000005"}, {10, "0.0000001"}, {12345678, "0.12345678"}, {10000000, "0.1"}, {90000000, "0.9"}, {99999999, "0.99999999"},
		{100000000, "1"}, {100000001, "1.00000001"}, {150000000, "1.5"}, {110000000, "1.1"}, {101000000, "1.01"}, {1000000000, "10"}, {1010000000, "10.1"}, {10000000000, "100"},
		{most, "11258999.06842624"}, {most - 1, "11258999.06842623"}, {most - 4, "11258999.0684262"}, {1125899900000000, "11258999"},
	}
	for _, x := range rows {
		if s, e := money.Text(x.amount); s != x.text || e != api.OK {
			t.Error(x, s, e)
		}
		if n, e := money.Parse(x.text); n != x.amount || e != api.OK {
			t.Error(x, n, e)
		}
	}
	both := func(amount int64) {
		t.Helper()
		s, e := money.Text(amount)
		n, f := money.Parse(s)
		if s != plainText(amount) || e != api.OK || n != amount || f != api.OK {
			t.Fatal(amount, s, e, n, f)
		}
	}
	for ten := int64(1); ten <= most; ten *= 10 {
		for digit := int64(1); digit < 10 && digit*ten <= most; digit++ {
			both(digit * ten)
			both(digit*ten - 1)
			both(min(digit*ten+1, most))
		}
	}
	pick := somePicks(6, most)
	for range 20000 {
		both(pick())
	}
	for _, amount := range amounts {
		both(amount)
	}
}

// P5.3: what is no amount has no text.
func TestTextNone(t *testing.T) {
	for _, n := range noAmounts {
		if s, e := money.Text(n); s != "" || e != api.ErrArg {
			t.Error(n, s, e)
		}
	}
}

// P5.3: texts that are no amount's.
func TestParseNone(t *testing.T) {
	texts := []string{
		"", ".", "..", " ", "-", "+", "x", "\x00", "\xff", "0x1", "1e1", "1_0", "1,5", "0.1e1", "inf", "NaN",
		"00", "01", "000000001", "00.5", "01.5", "-0", "-1", "+1", "+0", "-1.5", "--1", "-0.00000001", "-9223372036854775808",
		".5", "1.", "0.", "1.0", "1.50", "1.00000000", "0.0", "0.00000000", "0.00000010", "0.000000000", "0.000000010", "0.000000001", "1.123456789", "0.123456780",
		"1.5.5", "1..5", "1.5.", ".1.5", "1.-5", "1.+5", "-.5", "1. 5", "1 .5", " 1", "1 ", "1.5 ", "\n1", "1\n", "1.5\x00", "1.5\xff", "１", "1.٥", "१",
		"11258999.06842625", "11258999.06842634", "11258999.1", "11258999.9", "11259000", "11259000.1", "20000000", "99999999", "100000000", "1125899906842624",
		"92233720368.54775807", "92233720368.54775808", "92233720369", "184467440737.09551616", "184467440737.09551617", "184467440738", "18446744073709551616", "99999999999999999999999999.5",
		strings.Repeat("1", 1000), strings.Repeat("0", 100000), "0." + strings.Repeat("0", 100000), "0." + strings.Repeat("1", 100000), "1.5" + strings.Repeat("0", 100000), strings.Repeat(".", 1000),
	}
	for _, s := range texts {
		if n, e := money.Parse(s); n != 0 || e != api.ErrCoin {
			t.Errorf("%.60q: %d %d", s, n, e)
		}
	}
}

// P5.3, P5.4: what Parse takes is a text of an amount, byte by byte: of a right text, each other one that has one byte more, less or changed, is that of another amount, or of none.
func TestParseNear(t *testing.T) {
	near := func(s string) {
		t.Helper()
		n, e := money.Parse(s)
		if is := plainText(n) == s && money.Check(n) == api.OK; is != (e == api.OK) || !is && (n != 0 || e != api.ErrCoin) {
			t.Errorf("%q: %d %d", s, n, e)
		}
	}
	for _, right := range []string{"0", "1", "1.5", "0.00000005", "10.01", "11258999.06842624", "11258999"} {
		for place := range len(right) + 1 {
			for b := range 256 {
				near(right[:place] + string([]byte{byte(b)}) + right[place:])
				if place < len(right) {
					near(right[:place] + string([]byte{byte(b)}) + right[place+1:])
				}
			}
			near(right[:place])
			near(right[place:])
		}
	}
}

// P5.4: sums do not hang on the order, and what is added may be taken off.
func TestOrder(t *testing.T) {
	r := rand.New(rand.NewSource(7))
	pick := somePicks(8, most)
	for range 2000 {
		l := make([]int64, r.Intn(6))
		for i := range l {
			l[i] = pick()
		}
		sum, e := money.Add(l...)
		rest, f := money.Less(most, l...)
		mixed := slices.Clone(l)
		r.Shuffle(len(mixed), func(i, j int) { mixed[i], mixed[j] = mixed[j], mixed[i] })
		if n, again := money.Add(mixed...); n != sum || again != e {
			t.Fatal(l, mixed, n, again)
		}
		if n, again := money.Less(most, mixed...); n != rest || again != f {
			t.Fatal(l, mixed, n, again)
		}
		if (e == api.OK) != (f == api.OK) || e == api.OK && sum+rest != most {
			t.Fatal(l, sum, e, rest, f)
		}
		if e != api.OK {
			continue
		}
		for i, x := range l {
			others := slices.Delete(slices.Clone(l), i, i+1)
			want, _ := money.Add(others...)
			if n, e := money.Less(sum, x); n != want || e != api.OK {
				t.Fatal(l, i, n, e)
			}
		}
		if n, e := money.Less(sum, mixed...); n != 0 || e != api.OK {
			t.Fatal(l, n, e)
		}
	}
}

// P5.4: the shares by two rates, and that by both together.
func TestSharesTogether(t *testing.T) {
	less := 0
	for _, amount := range amounts {
		for _, one := range rates {
			for _, two := range rates {
				if one+two > maxRate {
					continue
				}
				a, _ := money.Share(amount, one)
				b, _ := money.Share(amount, two)
				both, e := money.Share(amount, one+two)
				if e != api.OK || a+b > both || a+b < both-1 {
					t.Error(amount, one, two, a, b, both)
				}
				less += int(both - a - b)
			}
		}
	}
	if less == 0 {
		t.Error("no two rates were less by 1")
	}
}
