package commit_test

import (
	"crypto/sha256"
	"math"
	"math/rand"
	"slices"
	"sort"
	"testing"

	"tallystick/api"
	"tallystick/commit"
	"tallystick/tx"
)

var (
	sweepWays = []api.WayKind{api.WayKey, api.WayLate, api.WayPoint, api.WayHash, api.WayTime}
	allWays   = append([]api.WayKind{api.WayBoth}, sweepWays...)
	noWays    = []api.WayKind{api.WayNone, -1, 7, 8, 256 + 2, 1<<32 + 2, math.MinInt, math.MaxInt}
)

func cloned(t api.Tx) api.Tx {
	return api.Tx{Number: t.Number, Ins: slices.Clone(t.Ins), Outs: slices.Clone(t.Outs)}
}

func namesSecret(w api.WayKind) bool { return w == api.WayPoint || w == api.WayHash }

func plainSweep(x api.Tx, key api.Hash, l []api.Claim) (api.Tx, api.Errno) {
	name, e := tx.Name(x)
	if e != api.OK || len(l) < 1 || len(l) > 24 {
		return api.Tx{}, api.ErrArg
	}
	met := map[int]bool{}
	var sum int64
	var y api.Tx
	for _, c := range l {
		if c.Index < 0 || c.Index >= len(x.Outs) || met[c.Index] || !slices.Contains(sweepWays, c.Way) || c.Secret != (api.Hash{}) && !namesSecret(c.Way) {
			return api.Tx{}, api.ErrArg
		}
		met[c.Index] = true
		sum += x.Outs[c.Index].Amount
		y.Ins = append(y.Ins, api.In{Name: name, Index: int64(c.Index), Way: c.Way, Secret: c.Secret})
	}
	sort.Slice(y.Ins, func(i, j int) bool { return y.Ins[i].Index < y.Ins[j].Index })
	y.Outs = []api.Out{{Kind: api.OutPlain, Amount: sum, Owner: key}}
	return y, api.OK
}

// swept asks Sweep about claims, of which the plain words tell what it answers.
func swept(t *testing.T, what string, x api.Tx, key api.Hash, l ...api.Claim) (e api.Errno) {
	t.Helper()
	want, e := plainSweep(x, key, l)
	y, got := commit.Sweep(x, key, l...)
	if got != e || !sameTx(y, want) {
		t.Errorf("%s: %v: %d %v\nis not %d %v", what, l, got, y, e, want)
	}
	if got == api.OK && tx.Check(y) != api.OK {
		t.Error(what, "Check")
	}
	return got
}

// wide has so many outputs, of all kinds.
func wide(outs int) api.Tx {
	x := api.Tx{Number: 5, Ins: []api.In{{Name: hashOf(1), Index: 2, Way: api.WayKey}}}
	for i := range int64(outs) {
		kinds := []api.Out{
			{Kind: api.OutPlain, Owner: hashOf(i)}, {Kind: api.OutLate, Owner: hashOf(i), Point: hashOf(i + 1), Delay: i},
			{Kind: api.OutFund, Owner: api.Hash{1}, Other: hashOf(i)},
			{Kind: api.OutOffered, Owner: hashOf(i), Other: hashOf(i + 2), Point: hashOf(i + 1), Hash: hashOf(i + 3), Delay: i, Expiry: i},
			{Kind: api.OutTaken, Owner: hashOf(i), Other: hashOf(i + 2), Point: hashOf(i + 1), Hash: hashOf(i + 3), Delay: i, Expiry: i},
		}
		o := kinds[i%5]
		o.Amount = 1 << i
		if o.Kind == api.OutFund && string(o.Owner[:]) > string(o.Other[:]) {
			o.Owner, o.Other = o.Other, o.Owner
		}
		x.Outs = append(x.Outs, o)
	}
	return x
}

// claimsOf are claims of the first outputs, in order, by all ways in turn.
func claimsOf(n int) (l []api.Claim) {
	for i := range n {
		c := api.Claim{Index: i, Way: sweepWays[i%5]}
		if namesSecret(c.Way) {
			c.Secret = hashOf(int64(i))
		}
		l = append(l, c)
	}
	return l
}

// P8.3: an output by each way, with a secret and without; by a way that is none, or WayBoth, it is refused.
func TestSweepWays(t *testing.T) {
	for i := range 5 {
		for _, w := range slices.Concat(allWays, noWays) {
			for _, secret := range []api.Hash{{}, {31: 1}, {0: 128}, hashOf(7)} {
				e := swept(t, "way", wide(5), hashOf(9), api.Claim{Index: i, Way: w, Secret: secret})
				may := slices.Contains(sweepWays, w) && (secret == api.Hash{} || namesSecret(w))
				if may != (e == api.OK) {
					t.Error(i, w, secret, e)
				}
				// One that may not be among those that may.
				l := claimsOf(5)
				l[i] = api.Claim{Index: i, Way: w, Secret: secret}
				if e := swept(t, "way among", wide(5), hashOf(9), l...); may != (e == api.OK) {
					t.Error(i, w, secret, e)
				}
			}
		}
	}
}

// P8.3: an output that is not there.
func TestSweepNotThere(t *testing.T) {
	for _, outs := range []int{1, 2, 5, 23, 24} {
		for _, at := range []int{0, 1, 2, 4, 5, 22, 23, 24, 25, outs - 1, outs, outs + 1, -1, -2, 256, 1 << 32, math.MinInt, math.MaxInt} {
			e := swept(t, "place", wide(outs), hashOf(9), api.Claim{Index: at, Way: api.WayKey})
			if (at >= 0 && at < outs) != (e == api.OK) {
				t.Error(outs, at, e)
			}
			l := append(claimsOf(outs)[1:], api.Claim{Index: at, Way: api.WayKey})
			if e := swept(t, "place among", wide(outs), hashOf(9), l...); (at == 0) != (e == api.OK) {
				t.Error(outs, at, e)
			}
		}
	}
}

// P8.3: none at all, one twice, too many, all.
func TestSweepCounts(t *testing.T) {
	for _, none := range [][]api.Claim{nil, {}} {
		if y, e := commit.Sweep(wide(5), hashOf(9), none...); e != api.ErrArg || !isZero(y) {
			t.Error(e)
		}
	}
	for n := range 25 {
		if e := swept(t, "first ones", wide(24), hashOf(9), claimsOf(n)...); (n > 0) != (e == api.OK) {
			t.Error(n, e)
		}
		if n == 0 {
			continue
		}
		if e := swept(t, "one twice", wide(24), hashOf(9), append(claimsOf(n), api.Claim{Index: n / 2, Way: api.WayPoint})...); e != api.ErrArg {
			t.Error(n, e)
		}
		if e := swept(t, "the first twice", wide(24), hashOf(9), append(claimsOf(n), claimsOf(1)...)...); e != api.ErrArg {
			t.Error(n, e)
		}
	}
	for _, n := range []int{25, 48, 1000, 1 << 17} {
		l := slices.Repeat([]api.Claim{{Way: api.WayKey}}, n)
		if y, e := commit.Sweep(wide(24), hashOf(9), l...); e != api.ErrArg || !isZero(y) {
			t.Error(n, e)
		}
	}
}

// P8.3: inputs in the order of their places, however claims stand; claims are not changed.
func TestSweepOrder(t *testing.T) {
	r := rand.New(rand.NewSource(6))
	for range 300 {
		l := claimsOf(24)
		r.Shuffle(24, func(i, j int) { l[i], l[j] = l[j], l[i] })
		n := 1 + r.Intn(24)
		kept := slices.Clone(l)
		x := wide(24)
		was := cloned(x)
		if e := swept(t, "order", x, hashOf(r.Int63()), l[:n]...); e != api.OK {
			t.Error(e)
		}
		if !slices.Equal(l, kept) || !sameTx(x, was) {
			t.Error("changed")
		}
	}
}

// P8.3: all that there is at most.
func TestSweepMost(t *testing.T) {
	x := wide(3)
	x.Outs[0].Amount, x.Outs[1].Amount, x.Outs[2].Amount = maxAmount-3, 1, 2
	if e := swept(t, "most", x, hashOf(9), claimsOf(3)...); e != api.OK {
		t.Error(e)
	}
	x.Outs[2].Amount = 3
	if e := swept(t, "above", x, hashOf(9), claimsOf(3)...); e != api.ErrArg {
		t.Error(e)
	}
	x = wide(1)
	x.Outs[0].Amount = maxAmount
	if e := swept(t, "twice the most", x, hashOf(9), append(claimsOf(1), claimsOf(1)...)...); e != api.ErrArg {
		t.Error(e)
	}
}

// noTxs are transactions that may not be.
func noTxs() []api.Tx {
	var l []api.Tx
	for _, change := range []func(*api.Tx){
		func(x *api.Tx) { x.Ins = nil }, func(x *api.Tx) { x.Outs = nil }, func(x *api.Tx) { x.Number = -1 }, func(x *api.Tx) { x.Number = maxNumber + 1 },
		func(x *api.Tx) { x.Outs[0].Amount = 0 }, func(x *api.Tx) { x.Outs[1].Kind = 6 }, func(x *api.Tx) { x.Ins[0].Way = 0 }, func(x *api.Tx) { x.Ins[0].Secret[0] = 1 },
		func(x *api.Tx) { x.Ins = append(x.Ins, x.Ins[0]) }, func(x *api.Tx) { x.Ins[0].Index = 24 }, func(x *api.Tx) { x.Outs = wide(25).Outs },
		func(x *api.Tx) { x.Outs[0].Amount = maxAmount }, func(x *api.Tx) { x.Outs[0].Other[3] = 1 },
	} {
		x := wide(3)
		change(&x)
		l = append(l, x)
	}
	return append(l, api.Tx{})
}

// P8.3: a transaction that may not be is not swept, and not tagged.
func TestNoTx(t *testing.T) {
	for i, x := range noTxs() {
		if tx.Check(x) == api.OK {
			t.Fatal(i)
		}
		for _, l := range [][]api.Claim{nil, claimsOf(1), claimsOf(2), claimsOf(25)} {
			if y, e := commit.Sweep(x, hashOf(9), l...); e != api.ErrArg || !isZero(y) {
				t.Error(i, e)
			}
		}
		if y, e := commit.Tagged(x, hashOf(1), hashOf(2)); e != api.ErrArg || !isZero(y) {
			t.Error(i, e)
		}
	}
}

// everyWay has an input of each way in turn, with what they name, if that is asked for.
func everyWay(n int, named bool) api.Tx {
	x := wide(4)
	x.Ins = nil
	for i := range n {
		in := api.In{Name: hashOf(int64(i)), Index: int64(i), Way: allWays[i%len(allWays)]}
		if namesSecret(in.Way) {
			in.Secret = hashOf(int64(100 + i))
		}
		if named && in.Way != api.WayPoint {
			in.Tag = hashOf(int64(200 + i))
		}
		if named && in.Way == api.WayBoth {
			in.Also = hashOf(int64(300 + i))
		}
		x.Ins = append(x.Ins, in)
	}
	return x
}

func tagged(t *testing.T, what string, x api.Tx, a, b api.Hash) {
	t.Helper()
	low, high := a, b
	if string(b[:]) < string(a[:]) {
		low, high = b, a
	}
	tag := func(key api.Hash) api.Hash {
		h, e := tx.Tag(x, key)
		if e != api.OK {
			t.Fatal(what, e)
		}
		return h
	}
	want := cloned(x)
	for i := range want.Ins {
		in := &want.Ins[i]
		switch in.Way {
		case api.WayBoth:
			in.Tag, in.Also = tag(low), tag(high)
		case api.WayKey, api.WayLate, api.WayHash, api.WayTime:
			in.Tag = tag(a)
		}
	}
	was := cloned(x)
	y, e := commit.Tagged(x, a, b)
	if e != api.OK || !sameTx(y, want) || tx.Check(y) != api.OK {
		t.Error(what, e, y, want)
	}
	if !sameTx(x, was) {
		t.Error(what, "changed")
	}
	// What stood there before counts no more, and a name does not hang on it.
	z, e := commit.Tagged(y, a, b)
	if e != api.OK || !sameTx(z, y) {
		t.Error(what, "again", e)
	}
	name, _ := tx.Name(x)
	if h, e := tx.Name(y); e != api.OK || h != name {
		t.Error(what, "name", e)
	}
	y.Ins[0].Index, y.Outs[0].Amount = 23, 98765
	if !sameTx(x, was) || z.Ins[0].Index != x.Ins[0].Index || z.Outs[0].Amount != x.Outs[0].Amount {
		t.Error(what, "shared")
	}
}

// P8.3: tags of inputs of all ways, by both orders of the two keys, that differ at any byte, or not at all.
func TestTagged(t *testing.T) {
	for _, named := range []bool{false, true} {
		for n := 1; n <= 24; n++ {
			x := everyWay(n, named)
			tagged(t, "keys", x, hashOf(1), hashOf(2))
			tagged(t, "keys, turned", x, hashOf(2), hashOf(1))
		}
		x := everyWay(7, named)
		for b := range 32 {
			low, high := hashOf(1), hashOf(1)
			low[b], high[b] = 0x7f, 0x80
			if b < 31 {
				low[b+1], high[b+1] = 0xff, 0
			}
			tagged(t, "near keys", x, low, high)
			tagged(t, "near keys, turned", x, high, low)
		}
		tagged(t, "same keys", x, hashOf(1), hashOf(1))
		tagged(t, "no key", x, api.Hash{}, hashOf(1))
		tagged(t, "no other key", x, hashOf(1), api.Hash{})
		tagged(t, "no keys", x, api.Hash{}, api.Hash{})
	}
}

// P8.3: what each side sweeps of a commitment, tagged by its key, spends the outputs rightly; tagged by the other one's it does not.
func TestSweepSpends(t *testing.T) {
	terms := base()
	secret := hashOf(70)
	for owner := range 2 {
		s := state(terms, owner,
			api.Pend{From: owner, ID: 1, Amount: 500, Hash: sha256.Sum256(secret[:]), Expiry: 30}, api.Pend{From: 1 - owner, ID: 1, Amount: 500, Hash: sha256.Sum256(secret[:]), Expiry: 30})
		x, e := commit.Commit(terms, s)
		pends, own, other, again := commit.Places(terms, s)
		if e != api.OK || again != api.OK {
			t.Fatal(e, again)
		}
		for side, l := range map[int][]api.Claim{
			owner:     {{Index: own, Way: api.WayLate}, {Index: pends[0], Way: api.WayTime}, {Index: pends[1], Way: api.WayHash, Secret: secret}},
			1 - owner: {{Index: other, Way: api.WayKey}, {Index: pends[0], Way: api.WayHash, Secret: secret}, {Index: pends[1], Way: api.WayTime}},
		} {
			swept(t, "side", x, terms.Keys[side], l...)
			y, e := commit.Sweep(x, terms.Keys[side], l...)
			if e != api.OK {
				t.Fatal(e)
			}
			spendsAll(t, x, y, terms.Keys[side], terms.Keys[1-side])
		}
	}
}

// spendsAll asks whether a sweep, tagged by a key, spends all that it names at 30, and, by the other key, nothing.
func spendsAll(t *testing.T, x, y api.Tx, key, other api.Hash) {
	t.Helper()
	right, _ := commit.Tagged(y, key, other)
	wrong, _ := commit.Tagged(y, other, key)
	for i, in := range y.Ins {
		if e := tx.Spend(right, i, x.Outs[in.Index], 23, 30); e != api.OK {
			t.Error(in, e)
		}
		if e := tx.Spend(wrong, i, x.Outs[in.Index], 23, 30); e != api.ErrSpend {
			t.Error("the other one's key", in, e)
		}
	}
}

// P8.3: answers share nothing with another one, nor with what was swept.
func TestSweepApart(t *testing.T) {
	x := wide(5)
	l := claimsOf(5)
	y, _ := commit.Sweep(x, hashOf(9), l...)
	want := cloned(y)
	z, _ := commit.Sweep(x, hashOf(9), l...)
	z.Ins[0].Index, z.Outs[0].Amount, x.Outs[0].Amount, l[0].Index = 20, 98765, 77, 4
	if !sameTx(y, want) {
		t.Error("shared")
	}
}
