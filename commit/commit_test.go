package commit_test

import (
	"fmt"
	"math"
	"math/rand"
	"slices"
	"testing"

	"tallystick/api"
	"tallystick/commit"
	"tallystick/secrets"
	"tallystick/tx"
)

// P8.2, P8.3: the chapter's examples.
func TestExamples(t *testing.T) {
	terms := base()
	terms.Capacity, terms.Dust, terms.Fee, terms.Delay = 1000, 10, 5, 3
	one, other := terms.Keys[0], terms.Keys[1]
	fund := []api.In{{Name: terms.Fund, Index: 3, Way: api.WayBoth}}

	x, e := commit.Commit(terms, api.Shares{Number: 4, Point: hashOf(5), Amounts: [2]int64{600, 400}})
	want := api.Tx{Number: 4, Ins: fund, Outs: []api.Out{
		{Kind: api.OutPlain, Amount: 400, Owner: other},
		{Kind: api.OutLate, Amount: 595, Owner: one, Point: hashOf(5), Delay: 3},
	}}
	if e != api.OK || !sameTx(x, want) {
		t.Error(e, x)
	}

	s := api.Shares{Owner: 1, Point: hashOf(5), Amounts: [2]int64{600, 380}, Pends: []api.Pend{{From: 0, ID: 7, Amount: 20, Hash: hashOf(6), Expiry: 8}}}
	x, e = commit.Commit(terms, s)
	want = api.Tx{Ins: fund, Outs: []api.Out{
		{Kind: api.OutTaken, Amount: 20, Owner: other, Other: one, Point: hashOf(5), Hash: hashOf(6), Delay: 3, Expiry: 8},
		{Kind: api.OutLate, Amount: 380, Owner: other, Point: hashOf(5), Delay: 3},
		{Kind: api.OutPlain, Amount: 595, Owner: one},
	}}
	if e != api.OK || !sameTx(x, want) {
		t.Error(e, x)
	}
	if pends, own, left, e := commit.Places(terms, s); e != api.OK || !slices.Equal(pends, []int{0}) || own != 1 || left != 2 {
		t.Error(pends, own, left, e)
	}

	x, e = commit.Close(terms, [2]int64{600, 400}, 600)
	want = api.Tx{Number: maxNumber, Ins: fund, Outs: []api.Out{{Kind: api.OutPlain, Amount: 400, Owner: other}}}
	if e != api.OK || !sameTx(x, want) {
		t.Error(e, x)
	}
	if x, e := commit.Commit(terms, api.Shares{Amounts: [2]int64{600, 401}}); e != api.ErrArg || !isZero(x) {
		t.Error(e, x)
	}
	if x, e := commit.Sweep(want, hashOf(1)); e != api.ErrArg || !isZero(x) {
		t.Error(e, x)
	}
}

// changes are those of one number of terms.
func changes(t *api.Terms) map[string]*int64 {
	return map[string]*int64{"index": &t.Index, "capacity": &t.Capacity, "dust": &t.Dust, "fee": &t.Fee, "delay": &t.Delay}
}

// P8.1, P8.2, P8.3: terms at each bound and one past it; those that may not be are refused by all calls.
func TestTerms(t *testing.T) {
	bounds := map[string][2]int64{"index": {0, 23}, "capacity": {1000, maxAmount}, "dust": {1, 500}, "fee": {0, 400}, "delay": {1, 1000}}
	for what, bound := range bounds {
		for _, n := range append([]int64{bound[0], bound[0] + 1, bound[1] - 1, bound[1], bound[0] - 1, bound[1] + 1, maxAmount + 1, 1 << 51}, someWrong...) {
			terms := base()
			*changes(&terms)[what] = n
			may := n >= bound[0] && n <= bound[1]
			if may != plainTerms(terms) {
				t.Fatal(what, n)
			}
			termsAsked(t, what, terms, may)
		}
	}
	termsAsked(t, "zero", api.Terms{}, false)
}

// P8.1: keys that are not the same are near each other, or nothing.
func TestKeys(t *testing.T) {
	for _, key := range []api.Hash{{}, hashOf(1), {31: 1}, {0: 255}} {
		terms := base()
		terms.Keys = [2]api.Hash{key, key}
		termsAsked(t, "same keys", terms, false)
		for b := range 32 {
			near := key
			near[b] ^= 0x81
			terms.Keys[1] = near
			termsAsked(t, "near keys", terms, true)
			termsAsked(t, "near keys, swapped", swapped(terms), true)
		}
	}
	terms := base()
	terms.Fund = api.Hash{}
	termsAsked(t, "no fund", terms, true)
}

func termsAsked(t *testing.T, what string, terms api.Terms, may bool) {
	t.Helper()
	want := api.ErrArg
	if may {
		want = api.OK
	}
	what = fmt.Sprint(what, terms)
	if e := commit.Terms(terms); e != want {
		t.Error(what, "Terms", e)
	}
	o, e := commit.Fund(terms)
	fund := api.Out{}
	if may {
		low, high := terms.Keys[0], terms.Keys[1]
		if string(low[:]) > string(high[:]) {
			low, high = high, low
		}
		fund = api.Out{Kind: api.OutFund, Amount: terms.Capacity, Owner: low, Other: high}
	}
	if e != want || o != fund {
		t.Error(what, "Fund", e, o)
	}
	// Of what may be, but for the terms.
	s := state(terms, 0)
	asked(t, what, terms, s)
	if e := commit.Shares(terms, s); e != want {
		t.Error(what, "Shares", e)
	}
	x, e := commit.Close(terms, s.Amounts, 0)
	if e != want || !may && !isZero(x) {
		t.Error(what, "Close", e, x)
	}
}

// P8.1, P8.2: a state's numbers at each bound and one past it.
func TestStates(t *testing.T) {
	terms := base()
	for _, n := range append([]int64{0, 1, maxNumber - 1, maxNumber, maxNumber + 1}, someWrong...) {
		s := state(terms, 1)
		s.Number = n
		asked(t, "number", terms, s)
		if may := n >= 0 && n <= maxNumber; may != (commit.Shares(terms, s) == api.OK) {
			t.Error("number", n)
		}
		s = state(terms, 0)
		s.Owner = int(n)
		asked(t, "owner", terms, s)
		if may := n == 0 || n == 1; may != (commit.Shares(terms, s) == api.OK) {
			t.Error("owner", n)
		}
	}
	for _, owner := range []int{2, 3, math.MinInt, math.MaxInt} {
		s := state(terms, 0)
		s.Owner = owner
		asked(t, "owner", terms, s)
	}
	for _, point := range []api.Hash{{}, hashOf(1), {31: 1}} {
		s := state(terms, 0)
		s.Point = point
		asked(t, "point", terms, s)
	}
}

// P8.1, P8.2: both amounts and those of all payments make the capacity; what is none is refused, also where the sum would wrap round to it.
func TestAmounts(t *testing.T) {
	terms := base()
	c := terms.Capacity
	rows := []struct {
		amounts [2]int64
		pends   []int64
		may     bool
	}{
		{[2]int64{c, 0}, nil, true}, {[2]int64{40, c - 40}, nil, true}, {[2]int64{39, c - 39}, nil, false}, {[2]int64{0, c}, nil, false}, {[2]int64{41, c - 41}, nil, true},
		{[2]int64{c / 2, c / 2}, nil, true}, {[2]int64{c / 2, c/2 + 1}, nil, false}, {[2]int64{c / 2, c/2 - 1}, nil, false}, {[2]int64{c / 2, c/2 - 1}, []int64{1}, true},
		{[2]int64{c + 1, -1}, nil, false}, {[2]int64{-1, c + 1}, nil, false}, {[2]int64{c, 0}, []int64{1}, false}, {[2]int64{c, 0}, []int64{0}, false},
		{[2]int64{c - 5, 0}, []int64{5}, true}, {[2]int64{c - 5, 0}, []int64{6, -1}, false}, {[2]int64{c + 5, 0}, []int64{-5}, false}, {[2]int64{c - 5, 0}, []int64{5, 0}, false},
		{[2]int64{40, 0}, []int64{c - 40}, true}, {[2]int64{39, 1}, []int64{c - 40}, false}, {[2]int64{40, 0}, []int64{c - 39}, false},
		{[2]int64{0, 0}, nil, false}, {[2]int64{}, []int64{c}, false}, {[2]int64{math.MaxInt64, math.MaxInt64}, []int64{c + 2}, false},
		{[2]int64{math.MinInt64, math.MinInt64}, []int64{c}, false}, {[2]int64{1 << 62, 1 << 62}, []int64{1 << 62, 1 << 62, c}, false},
		{[2]int64{c, 1 << 62}, []int64{1 << 62, 1 << 62, 1 << 62}, false}, {[2]int64{maxAmount, maxAmount}, nil, false}, {[2]int64{c, math.MinInt64}, nil, false},
		{[2]int64{c, maxAmount + 1}, nil, false}, {[2]int64{c - 1, 0}, []int64{math.MaxInt64, math.MaxInt64, 3}, false}, {[2]int64{c, 0}, []int64{math.MinInt64, math.MinInt64}, false},
	}
	for _, row := range rows {
		s := api.Shares{Owner: 1, Amounts: row.amounts}
		for i, n := range row.pends {
			s.Pends = append(s.Pends, api.Pend{ID: int64(i), Amount: n, Expiry: 1})
		}
		if row.may != plainState(terms, s) {
			t.Fatal(row)
		}
		asked(t, fmt.Sprint(row), terms, s)
	}
	terms.Capacity = maxAmount
	asked(t, "most", terms, api.Shares{Amounts: [2]int64{maxAmount, 0}})
	asked(t, "above most", terms, api.Shares{Amounts: [2]int64{maxAmount, 1}})
	asked(t, "most, shared", terms, state(terms, 0, many(1, 8, maxAmount/8-100)...))
}

// P8.1, P8.2: a payment's numbers at each bound and one past it, wherever it stands.
func TestPends(t *testing.T) {
	terms := base()
	for at := range 3 {
		try := func(what string, change func(*api.Pend)) {
			t.Helper()
			for owner := range 2 {
				s := state(terms, owner, both(many(0, 2, 100), many(1, 1, 300))...)
				change(&s.Pends[at])
				asked(t, what, terms, s)
			}
		}
		for _, n := range append([]int64{0, 1, 2, 3, 5, maxNumber - 1, maxNumber, maxNumber + 1}, someWrong...) {
			try("from", func(p *api.Pend) { p.From = int(n) })
			try("ID", func(p *api.Pend) { p.ID = n })
			try("expiry", func(p *api.Pend) { p.Expiry = n })
			try("amount", func(p *api.Pend) { p.Amount = n })
		}
		try("hash", func(p *api.Pend) { p.Hash = api.Hash{} })
		try("nothing", func(p *api.Pend) { *p = api.Pend{} })
	}
	s := state(terms, 0, api.Pend{ID: maxNumber, Amount: 500, Expiry: maxNumber}, api.Pend{From: 1, ID: maxNumber, Amount: 500, Expiry: maxNumber}, api.Pend{ID: 0, Amount: 1, Expiry: 1})
	if e := commit.Shares(terms, s); e != api.OK {
		t.Error(e)
	}
}

// P8.1, P8.2: as many payments of a side as may be, and one more.
func TestMany(t *testing.T) {
	terms := base()
	for _, ours := range []int{0, 1, 7, 8, 9, 10, 16, 17, 100} {
		for _, theirs := range []int{0, 1, 7, 8, 9, 10, 16, 17, 100} {
			s := state(terms, 0, both(many(0, ours, 101), many(1, theirs, 101))...)
			if may := ours <= 8 && theirs <= 8; may != (commit.Shares(terms, s) == api.OK) {
				t.Error(ours, theirs, commit.Shares(terms, s))
			}
			asked(t, "many", terms, s)
			slices.Reverse(s.Pends)
			asked(t, "many, from behind", terms, s)
		}
	}
	x, e := commit.Commit(terms, state(terms, 1, both(many(0, 8, 101), many(1, 8, 101))...))
	if e != api.OK || len(x.Outs) != 18 {
		t.Error(e, len(x.Outs))
	}
	long := state(terms, 0, slices.Repeat([]api.Pend{{Amount: 1, Expiry: 1}}, 1<<17)...)
	if e := commit.Shares(terms, long); e != api.ErrArg {
		t.Error(e)
	}
}

// P8.1: two payments of one side have not one ID; of two sides they may.
func TestOneID(t *testing.T) {
	terms := base()
	for first := range 8 {
		for second := range 8 {
			if first == second {
				continue
			}
			l := both(many(0, 8, 101), many(1, 8, 101))
			s := state(terms, 1, l...)
			asked(t, "one ID of two sides", terms, s)
			s.Pends[second].ID = s.Pends[first].ID
			asked(t, "one ID of side 0", terms, s)
			if e := commit.Shares(terms, s); e != api.ErrArg {
				t.Error(first, second, e)
			}
			s = state(terms, 1, l...)
			s.Pends[8+second].ID = s.Pends[8+first].ID
			asked(t, "one ID of side 1", terms, s)
			if e := commit.Shares(terms, s); e != api.ErrArg {
				t.Error(first, second, e)
			}
		}
	}
	// Two that are the same in all are refused, too; but for the ID alone they are not.
	p := api.Pend{From: 1, ID: 4, Amount: 200, Hash: hashOf(1), Expiry: 9}
	if e := commit.Shares(terms, state(terms, 0, p, p)); e != api.ErrArg {
		t.Error(e)
	}
	q := p
	q.ID = 5
	asked(t, "alike", terms, state(terms, 0, p, q))
	asked(t, "alike", terms, state(terms, 1, q, p))
}

// P8.2: what is a bit below Dust has no output; Dust has, and more.
func TestDust(t *testing.T) {
	for _, dust := range []int64{1, 2, 99, 100, 499, 500} {
		for _, fee := range []int64{0, 1, 400} {
			terms := base()
			terms.Dust, terms.Fee = dust, fee
			for owner := range 2 {
				for near := int64(-1); near <= 1; near++ {
					dustAsked(t, terms, owner, dust+near)
				}
			}
		}
	}
}

// dustAsked asks about what is near Dust as each of the outputs.
func dustAsked(t *testing.T, terms api.Terms, owner int, n int64) {
	t.Helper()
	has := n >= terms.Dust
	want := func(what string, s api.Shares, others int) {
		t.Helper()
		asked(t, what, terms, s)
		outs := others
		if has {
			outs++
		}
		if x, e := commit.Commit(terms, s); e != api.OK || len(x.Outs) != outs {
			t.Error(what, terms, s, len(x.Outs), e)
		}
	}
	c := terms.Capacity
	// Of side 0 what is left counts, less the fee.
	want("side 0", api.Shares{Owner: owner, Amounts: [2]int64{n + terms.Fee, c - n - terms.Fee}}, 1)
	want("side 1", api.Shares{Owner: owner, Amounts: [2]int64{c - n, n}}, 1)
	if n == 0 {
		return
	}
	for from := range 2 {
		s := state(terms, owner, api.Pend{From: from, ID: 3, Amount: n, Expiry: 5})
		want("payment", s, 2)
		if pends, _, _, e := commit.Places(terms, s); e != api.OK || len(pends) != 1 || (pends[0] == -1) == has {
			t.Error(pends, e)
		}
	}
}

// P8.2: of which none is left there is no commitment; the state may be though.
func TestBare(t *testing.T) {
	terms := base()
	terms.Capacity, terms.Dust, terms.Fee = 1000, 500, 400
	for owner := range 2 {
		for _, s := range []api.Shares{
			{Owner: owner, Amounts: [2]int64{899, 101}}, {Owner: owner, Amounts: [2]int64{501, 499}}, {Owner: owner, Amounts: [2]int64{600, 400}},
			{Owner: owner, Amounts: [2]int64{400, 0}, Pends: many(0, 3, 199)}, {Owner: owner, Amounts: [2]int64{401, 499}, Pends: many(1, 1, 100)},
		} {
			asked(t, "bare", terms, s)
			if e := commit.Shares(terms, s); e != api.OK {
				t.Error(s, e)
			}
			if x, e := commit.Commit(terms, s); e != api.ErrBare || !isZero(x) {
				t.Error(s, e)
			}
			if pends, own, other, e := commit.Places(terms, s); e != api.ErrBare || pends != nil || own != 0 || other != 0 {
				t.Error(s, pends, own, other, e)
			}
			// What may not be counts more.
			s.Amounts[1]++
			if x, e := commit.Commit(terms, s); e != api.ErrArg || !isZero(x) {
				t.Error(s, e)
			}
		}
		for _, s := range []api.Shares{
			{Owner: owner, Amounts: [2]int64{900, 100}}, {Owner: owner, Amounts: [2]int64{500, 500}}, {Owner: owner, Amounts: [2]int64{400, 100}, Pends: many(0, 1, 500)},
		} {
			asked(t, "just one", terms, s)
			if x, e := commit.Commit(terms, s); e != api.OK || len(x.Outs) != 1 {
				t.Error(s, e)
			}
		}
	}
}

// P8.2: outputs in order by amounts, then kinds, expiries, hashes, IDs, each of which goes against all that count less.
func TestOrder(t *testing.T) {
	terms := base()
	of := func(from int, id, amount int64, hash byte, last byte, expiry int64) api.Pend {
		return api.Pend{From: from, ID: id, Amount: amount, Hash: api.Hash{0: hash, 31: last}, Expiry: expiry}
	}
	// In order, if side 0 is the owner: what it offers stands ahead of what it takes.
	l := []api.Pend{
		of(1, 9, 200, 9, 9, 9), of(0, 8, 201, 8, 8, 8),
		of(0, 7, 300, 7, 7, 256), of(0, 6, 300, 0, 0, 257), of(0, 5, 300, 0, 1, 257), of(0, 4, 300, 1, 0, 257), of(0, 3, 300, 128, 0, 257),
		of(1, 1, 300, 0, 0, 1), of(1, 2, 300, 0, 0, 1), of(1, 10, 300, 0, 0, 1), of(1, 300, 300, 0, 0, 1), of(1, 0, 300, 0, 0, 2), of(1, 7, 1000, 0, 0, 1),
	}
	for owner, want := range [][]int{{0, 1, 2, 3, 4, 5, 6, 7, 8, 9, 10, 11, 12}, {0, 1, 7, 8, 9, 10, 11, 2, 3, 4, 5, 6, 12}} {
		s := state(terms, owner, slices.Clone(l)...)
		asked(t, "order", terms, s)
		pends, own, other, e := commit.Places(terms, s)
		if e != api.OK || !slices.Equal(pends, want) || own != 14-owner || other != 13+owner {
			t.Error(pends, own, other, e)
		}
		slices.Reverse(s.Pends)
		slices.Reverse(want)
		asked(t, "order, turned", terms, s)
		pends, _, _, e = commit.Places(terms, s)
		if e != api.OK || !slices.Equal(pends, want) {
			t.Error(pends, e)
		}
	}
}

// P8.2: what is left of both sides stands among payments of the same amount by its kind: OutPlain, OutLate, OutOffered, OutTaken.
func TestOrderOfKinds(t *testing.T) {
	for owner := range 2 {
		terms := base()
		terms.Capacity, terms.Fee = 4*250+30, 30
		s := api.Shares{Owner: owner, Point: hashOf(1), Amounts: [2]int64{280, 250}, Pends: []api.Pend{
			{From: 1 - owner, ID: 0, Amount: 250, Expiry: 1}, {From: owner, ID: 5, Amount: 250, Hash: hashOf(4), Expiry: 6},
		}}
		asked(t, "kinds", terms, s)
		x, e := commit.Commit(terms, s)
		if e != api.OK || len(x.Outs) != 4 {
			t.Fatal(e)
		}
		for i, kind := range []api.OutKind{api.OutPlain, api.OutLate, api.OutOffered, api.OutTaken} {
			if x.Outs[i].Kind != kind || x.Outs[i].Amount != 250 {
				t.Error(i, x.Outs[i])
			}
		}
		pends, own, other, e := commit.Places(terms, s)
		if e != api.OK || !slices.Equal(pends, []int{3, 2}) || own != 1 || other != 0 {
			t.Error(pends, own, other, e)
		}
	}
}

// P8.2: places of payments, of which some have no output.
func TestPlaces(t *testing.T) {
	terms := base()
	s := state(terms, 0,
		api.Pend{From: 1, ID: 3, Amount: 99, Expiry: 1}, api.Pend{From: 0, ID: 3, Amount: 400, Expiry: 1}, api.Pend{From: 0, ID: 4, Amount: 1, Expiry: 1},
		api.Pend{From: 1, ID: 4, Amount: 100, Expiry: 1}, api.Pend{From: 1, ID: 0, Amount: 400, Expiry: 1})
	asked(t, "places", terms, s)
	pends, own, other, e := commit.Places(terms, s)
	if e != api.OK || !slices.Equal(pends, []int{-1, 1, -1, 0, 2}) || own != 4 || other != 3 {
		t.Error(pends, own, other, e)
	}
	// Without payments there are none.
	for owner, amounts := range [][2]int64{{100000, 0}, {139, 99861}} {
		s := api.Shares{Owner: owner, Amounts: amounts}
		asked(t, "no payments", terms, s)
		if pends, own, other, e := commit.Places(terms, s); e != api.OK || len(pends) != 0 || own != 0 || other != -1 {
			t.Error(pends, own, other, e)
		}
		s.Owner = 1 - owner
		asked(t, "no payments", terms, s)
		if pends, own, other, e := commit.Places(terms, s); e != api.OK || len(pends) != 0 || own != -1 || other != 0 {
			t.Error(pends, own, other, e)
		}
	}
}

// P8.2, P8.4: all that may be, by picks: what a commitment makes, how it is spent, that it does not hang on the order.
func TestRandom(t *testing.T) {
	r := rand.New(rand.NewSource(8))
	bare, outs := 0, 0
	for range 6000 {
		terms := randomTerms(r)
		s := randomState(r, terms)
		if !plainState(terms, s) {
			t.Fatal(terms, s)
		}
		asked(t, "random", terms, s)
		x, e := commit.Commit(terms, s)
		if e == api.ErrBare {
			bare++
			continue
		}
		outs += len(x.Outs)
		follows(t, terms, s, x)
		turned := s
		turned.Pends = slices.Clone(s.Pends)
		r.Shuffle(len(s.Pends), func(i, j int) { turned.Pends[i], turned.Pends[j] = turned.Pends[j], turned.Pends[i] })
		if y, e := commit.Commit(terms, turned); e != api.OK || !sameTx(x, y) {
			t.Error("turned", e, x, y)
		}
		asked(t, "turned", terms, turned)
		wrong := turned
		wrong.Amounts[r.Intn(2)] += pick[int64](r, -1, 1, maxAmount)
		asked(t, "wrong", terms, wrong)
	}
	if bare < 20 || outs < 10000 {
		t.Error("hardly any", bare, outs)
	}
}

// follows asks what follows of a commitment: its outputs, what has none, and Fee are the capacity.
func follows(t *testing.T, terms api.Terms, s api.Shares, x api.Tx) {
	t.Helper()
	sum, e := tx.Sum(x)
	pends, own, other, again := commit.Places(terms, s)
	if e != api.OK || again != api.OK {
		t.Fatal(e, again)
	}
	sum += terms.Fee
	left := s.Amounts
	left[0] -= terms.Fee
	none := func(place int, amount int64) {
		if place == -1 {
			sum += amount
			if amount >= terms.Dust {
				t.Error("no output", amount)
			}
		} else if x.Outs[place].Amount != amount {
			t.Error("another output", place, amount)
		}
	}
	for i, place := range pends {
		none(place, s.Pends[i].Amount)
	}
	none(own, left[s.Owner])
	none(other, left[1-s.Owner])
	if sum != terms.Capacity {
		t.Error("sum", sum, terms.Capacity)
	}
}

// P8.4: two payments that are alike but for the ID change nothing, whichever is which.
func TestAlike(t *testing.T) {
	terms := base()
	l := []api.Pend{
		{From: 0, ID: 1, Amount: 200, Hash: hashOf(1), Expiry: 5}, {From: 0, ID: 2, Amount: 200, Hash: hashOf(1), Expiry: 5}, {From: 0, ID: 3, Amount: 200, Hash: hashOf(1), Expiry: 5},
		{From: 1, ID: 1, Amount: 200, Hash: hashOf(1), Expiry: 5}, {From: 1, ID: 2, Amount: 200, Hash: hashOf(1), Expiry: 5},
	}
	first, e := commit.Commit(terms, state(terms, 0, l...))
	if e != api.OK {
		t.Fatal(e)
	}
	r := rand.New(rand.NewSource(3))
	for range 200 {
		order := r.Perm(len(l))
		var turned []api.Pend
		want := make([]int, len(l))
		for i, at := range order {
			turned = append(turned, l[at])
			want[i] = at
		}
		s := state(terms, 0, turned...)
		if x, e := commit.Commit(terms, s); e != api.OK || !sameTx(x, first) {
			t.Error(order, e)
		}
		// Each is told by its ID, not by where it stands.
		if pends, own, other, e := commit.Places(terms, s); e != api.OK || !slices.Equal(pends, want) || own != 6 || other != 5 {
			t.Error(order, pends, own, other, e)
		}
	}
	l[1].ID, l[0].ID = 7, 6
	if x, e := commit.Commit(terms, state(terms, 0, l...)); e != api.OK || !sameTx(x, first) {
		t.Error("other IDs", e)
	}
}

// P8.4: a tagged commitment spends the fund output rightly, of keys in either order; by another key's tags it does not.
func TestSpendsFund(t *testing.T) {
	for _, terms := range []api.Terms{base(), swapped(base())} {
		fund, e := commit.Fund(terms)
		if e != api.OK {
			t.Fatal(e)
		}
		for owner := range 2 {
			x, e := commit.Commit(terms, state(terms, owner, both(many(0, 3, 500), many(1, 3, 500))...))
			if e != api.OK {
				t.Fatal(e)
			}
			closing, e := commit.Close(terms, [2]int64{terms.Capacity / 2, terms.Capacity / 2}, 30)
			if e != api.OK {
				t.Fatal(e)
			}
			for _, x := range []api.Tx{x, closing} {
				spendsFund(t, terms, fund, x)
			}
		}
	}
}

func spendsFund(t *testing.T, terms api.Terms, fund api.Out, x api.Tx) {
	t.Helper()
	if e := tx.Spend(x, 0, fund, 0, 0); e != api.ErrSpend {
		t.Error("bare", e)
	}
	for _, keys := range [][2]api.Hash{terms.Keys, swapped(terms).Keys} {
		y, e := commit.Tagged(x, keys[0], keys[1])
		if e != api.OK || tx.Spend(y, 0, fund, 7, 7) != api.OK {
			t.Error("tagged", e)
		}
		if y.Ins[0].Name != terms.Fund || y.Ins[0].Index != terms.Index {
			t.Error("of another output")
		}
		for i := range keys {
			wrong := keys
			wrong[i] = hashOf(77)
			if y, e := commit.Tagged(x, wrong[0], wrong[1]); e != api.OK || tx.Spend(y, 0, fund, 7, 7) != api.ErrSpend {
				t.Error("tagged by another key", e)
			}
		}
	}
}

// P8.2: what is handed in is not changed, and an answer is new memory.
func TestApart(t *testing.T) {
	terms := base()
	l := both(many(1, 3, 300), many(0, 3, 200))
	room := append(slices.Clone(l), api.Pend{ID: 55}, api.Pend{ID: 56})
	kept := slices.Clone(room)
	s := state(terms, 0, room[:len(l)]...)
	x, _ := commit.Commit(terms, s)
	pends, _, _, _ := commit.Places(terms, s)
	commit.Shares(terms, s)
	if !slices.Equal(room, kept) {
		t.Error("changed")
	}
	want := cloned(x)
	places := slices.Clone(pends)
	for i := range room {
		room[i] = api.Pend{}
	}
	if !sameTx(x, want) || !slices.Equal(pends, places) {
		t.Error("shared with what was handed in")
	}
	s = state(terms, 0, l...)
	y, _ := commit.Commit(terms, s)
	again, _, _, _ := commit.Places(terms, s)
	y.Ins[0].Index, y.Outs[0].Amount, again[0] = 20, 1, 99
	if !sameTx(x, want) || !slices.Equal(pends, places) {
		t.Error("shared with another answer")
	}
	if z, e := commit.Commit(terms, s); e != api.OK || !sameTx(z, want) {
		t.Error("kept")
	}
}

// P8.4: who has the secret of the point sweeps all outputs of a commitment at any height.
func TestSweptByPoint(t *testing.T) {
	r := rand.New(rand.NewSource(4))
	for range 200 {
		terms := randomTerms(r)
		s := randomState(r, terms)
		secret := secretOf(r.Int63())
		s.Point = secrets.Point(secret)
		x, e := commit.Commit(terms, s)
		if e == api.ErrBare {
			continue
		}
		var l []api.Claim
		for i, o := range x.Outs {
			c := api.Claim{Index: i, Way: api.WayPoint, Secret: secret}
			if o.Kind == api.OutPlain {
				c = api.Claim{Index: i, Way: api.WayKey}
			}
			l = append(l, c)
		}
		other := terms.Keys[1-s.Owner]
		y, e := commit.Sweep(x, other, l...)
		if e != api.OK {
			t.Fatal(e)
		}
		y, e = commit.Tagged(y, other, hashOf(5))
		if e != api.OK || len(y.Ins) != len(x.Outs) {
			t.Fatal(e)
		}
		all, _ := tx.Sum(x)
		if n, e := tx.Sum(y); e != api.OK || n != all {
			t.Error(n, all, e)
		}
		for i := range y.Ins {
			for _, since := range []int64{0, 1, 1000, maxNumber} {
				if e := tx.Spend(y, i, x.Outs[i], since, since); e != api.OK {
					t.Error(x.Outs[i], e)
				}
			}
		}
	}
}
