package commit_test

import (
	"crypto/sha256"
	"encoding/binary"
	"fmt"
	"math"
	"math/big"
	"math/rand"
	"slices"
	"sort"
	"testing"

	"tallystick/api"
	"tallystick/commit"
	"tallystick/secrets"
	"tallystick/tx"
)

const (
	maxAmount = 1 << 50
	maxNumber = 1<<31 - 1
)

func hashOf(pick int64) api.Hash {
	var b [8]byte
	binary.BigEndian.PutUint64(b[:], uint64(pick))
	return sha256.Sum256(b[:])
}

func isZero(t api.Tx) bool { return t.Number == 0 && len(t.Ins) == 0 && len(t.Outs) == 0 }

func sameTx(a, b api.Tx) bool {
	return a.Number == b.Number && slices.Equal(a.Ins, b.Ins) && slices.Equal(a.Outs, b.Outs)
}

// plainTerms tells by the chapter's words whether terms may be.
func plainTerms(t api.Terms) bool {
	return t.Index >= 0 && t.Index <= 23 &&
		t.Capacity >= 1000 && t.Capacity <= maxAmount &&
		t.Dust >= 1 && t.Dust <= 500 &&
		t.Fee >= 0 && t.Fee <= 400 &&
		t.Delay >= 1 && t.Delay <= 1000 &&
		t.Keys[0] != t.Keys[1]
}

// plainMake asks by sums of any size whether amounts, each of which is one, make a capacity.
func plainMake(capacity int64, amounts ...int64) bool {
	sum := new(big.Int)
	for _, n := range amounts {
		if n < 0 || n > maxAmount {
			return false
		}
		sum.Add(sum, big.NewInt(n))
	}
	return sum.Cmp(big.NewInt(capacity)) == 0
}

func plainState(t api.Terms, s api.Shares) bool {
	if !plainTerms(t) || s.Number < 0 || s.Number > maxNumber || s.Owner < 0 || s.Owner > 1 || s.Amounts[0] < t.Fee {
		return false
	}
	amounts := []int64{s.Amounts[0], s.Amounts[1]}
	for i, p := range s.Pends {
		if p.From < 0 || p.From > 1 || p.ID < 0 || p.ID > maxNumber || p.Amount < 1 || p.Expiry < 1 || p.Expiry > maxNumber {
			return false
		}
		like := 0
		for j, q := range s.Pends {
			if q.From == p.From {
				like++
			}
			if i != j && q.From == p.From && q.ID == p.ID {
				return false
			}
		}
		if like > 8 {
			return false
		}
		amounts = append(amounts, p.Amount)
	}
	return plainMake(t.Capacity, amounts...)
}

// plainOut is an output with what it is of: a side's rest (-1, -2), or the place of a payment.
type plainOut struct {
	out api.Out
	id  int64
	of  int
}

// plainOuts are a state's outputs in order: they are sorted by texts that begin with what counts most.
func plainOuts(t api.Terms, s api.Shares) []plainOut {
	var l []plainOut
	other := 1 - s.Owner
	rest := s.Amounts
	rest[0] -= t.Fee
	if n := rest[s.Owner]; n >= t.Dust {
		l = append(l, plainOut{api.Out{Kind: api.OutLate, Amount: n, Owner: t.Keys[s.Owner], Point: s.Point, Delay: t.Delay}, 0, -1})
	}
	if n := rest[other]; n >= t.Dust {
		l = append(l, plainOut{api.Out{Kind: api.OutPlain, Amount: n, Owner: t.Keys[other]}, 0, -2})
	}
	for i, p := range s.Pends {
		o := api.Out{Kind: api.OutTaken, Amount: p.Amount, Owner: t.Keys[s.Owner], Other: t.Keys[other], Point: s.Point, Hash: p.Hash, Delay: t.Delay, Expiry: p.Expiry}
		if p.From == s.Owner {
			o.Kind = api.OutOffered
		}
		if p.Amount >= t.Dust {
			l = append(l, plainOut{o, p.ID, i})
		}
	}
	text := func(o plainOut) string {
		return fmt.Sprintf("%020d %d %020d %x %020d", o.out.Amount, o.out.Kind, o.out.Expiry, o.out.Hash, o.id)
	}
	sort.Slice(l, func(i, j int) bool { return text(l[i]) < text(l[j]) })
	return l
}

// asked asks Shares, Commit and Places about a state, of which the plain words tell what they answer.
func asked(t *testing.T, what string, terms api.Terms, s api.Shares) {
	t.Helper()
	want := api.OK
	var l []plainOut
	if !plainState(terms, s) {
		want = api.ErrArg
	} else if l = plainOuts(terms, s); len(l) == 0 {
		want = api.ErrBare
	}
	if e := commit.Shares(terms, s); (e != api.OK) != (want == api.ErrArg) || e != api.OK && e != api.ErrArg {
		t.Error(what, "Shares", e, want)
	}
	x, e := commit.Commit(terms, s)
	pends, own, other, again := commit.Places(terms, s)
	if e != want || again != want {
		t.Error(what, "Commit, Places", e, again, want)
		return
	}
	if want != api.OK {
		if !isZero(x) || len(pends) != 0 || own != 0 || other != 0 {
			t.Error(what, "beside an error", x, pends, own, other)
		}
		return
	}
	made(t, what, terms, s, x)
	placed(t, what, s, l, append([]int{own, other}, pends...))
}

// made asks whether a commitment is the state's.
func made(t *testing.T, what string, terms api.Terms, s api.Shares, x api.Tx) {
	t.Helper()
	want := api.Tx{Number: s.Number, Ins: []api.In{{Name: terms.Fund, Index: terms.Index, Way: api.WayBoth}}}
	for _, o := range plainOuts(terms, s) {
		want.Outs = append(want.Outs, o.out)
	}
	if !sameTx(x, want) {
		t.Errorf("%s: %v\nis not\n%v", what, x, want)
	}
	if e := tx.Check(x); e != api.OK {
		t.Error(what, "Check", e)
	}
}

// placed asks whether the places are those of the owner, of the other one, and of all payments.
func placed(t *testing.T, what string, s api.Shares, l []plainOut, places []int) {
	t.Helper()
	want := slices.Repeat([]int{-1}, 2+len(s.Pends))
	for at, o := range l {
		if o.of < 0 {
			want[-1-o.of] = at
		} else {
			want[2+o.of] = at
		}
	}
	if !slices.Equal(places, want) {
		t.Error(what, "places", places, want)
	}
}

// base has terms whose bounds are near, and both keys in order.
func base() api.Terms {
	t := api.Terms{Fund: hashOf(1), Index: 3, Capacity: 100000, Dust: 100, Fee: 40, Delay: 7, Keys: [2]api.Hash{hashOf(2), hashOf(3)}}
	if string(t.Keys[0][:]) > string(t.Keys[1][:]) {
		t.Keys[0], t.Keys[1] = t.Keys[1], t.Keys[0]
	}
	return t
}

// swapped has the keys in the other order.
func swapped(t api.Terms) api.Terms {
	t.Keys[0], t.Keys[1] = t.Keys[1], t.Keys[0]
	return t
}

func secretOf(pick int64) api.Hash { return hashOf(1000 + pick) }

// state is one of payments; what is left of the capacity is shared by both sides.
func state(t api.Terms, owner int, pends ...api.Pend) api.Shares {
	s := api.Shares{Number: 9, Owner: owner, Point: secrets.Point(secretOf(9)), Pends: pends}
	rest := t.Capacity
	for _, p := range pends {
		rest -= p.Amount
	}
	s.Amounts = [2]int64{rest - rest/3, rest / 3}
	return s
}

// many are so many payments of a side, of amounts from a first one on.
func many(from, n int, first int64) (l []api.Pend) {
	for i := range int64(n) {
		l = append(l, api.Pend{From: from, ID: i, Amount: first + i, Hash: hashOf(i), Expiry: 1 + i})
	}
	return l
}

func both(a, b []api.Pend) []api.Pend { return slices.Concat(a, b) }

func pick[T any](r *rand.Rand, l ...T) T { return l[r.Intn(len(l))] }

// randomTerms are any that may be, with bounds among them more often.
func randomTerms(r *rand.Rand) api.Terms {
	t := api.Terms{
		Fund: hashOf(r.Int63n(9)), Index: pick(r, 0, 1, 23, r.Int63n(24)), Capacity: pick(r, 1000, 1001, maxAmount, 2000+r.Int63n(20000)),
		Dust: pick(r, 1, 2, 500, 1+r.Int63n(500)), Fee: pick(r, 0, 1, 400, r.Int63n(401)), Delay: pick(r, 1, 2, 1000, 1+r.Int63n(1000)),
		Keys: [2]api.Hash{hashOf(r.Int63n(1000)), hashOf(1000 + r.Int63n(1000))},
	}
	if r.Intn(2) == 0 {
		t.Keys[1] = t.Keys[0]
		t.Keys[1][r.Intn(32)] ^= 1 << r.Intn(8)
	}
	return t
}

// randomState is one that may be: parts are taken off the capacity, many of them near Dust, and alike.
func randomState(r *rand.Rand, t api.Terms) api.Shares {
	s := api.Shares{Number: pick(r, 0, 1, maxNumber, r.Int63n(maxNumber)), Owner: r.Intn(2), Point: hashOf(r.Int63n(1000))}
	rest := t.Capacity - t.Fee
	take := func(n int64) int64 {
		n = min(n, rest)
		rest -= n
		return n
	}
	// What lies near Dust is what may go wrong.
	near := func() int64 {
		return take(max(1, pick(r, t.Dust-1, t.Dust, t.Dust+1, t.Dust+r.Int63n(3), r.Int63n(t.Dust+1), r.Int63n(t.Capacity))))
	}
	for from := range 2 {
		ids := r.Perm(20)
		for i := range r.Intn(9) {
			p := api.Pend{From: from, ID: pick(r, int64(ids[i]), int64(ids[i]), maxNumber-int64(ids[i])), Amount: near(), Hash: hashOf(r.Int63n(2)), Expiry: pick[int64](r, 1, 2, maxNumber-1, maxNumber)}
			if p.Amount > 0 {
				s.Pends = append(s.Pends, p)
			}
		}
	}
	r.Shuffle(len(s.Pends), func(i, j int) { s.Pends[i], s.Pends[j] = s.Pends[j], s.Pends[i] })
	side := r.Intn(2)
	all := rest
	few := near()
	s.Amounts[side] = pick(r, 0, few, all)
	s.Amounts[1-side] = all - s.Amounts[side]
	s.Amounts[0] += t.Fee
	return s
}

// someWrong are numbers that are outside all bounds.
var someWrong = []int64{-1, -2, math.MinInt64, math.MinInt32, 1 << 31, 1<<32 + 1, 1<<62 + 5, math.MaxInt64}
