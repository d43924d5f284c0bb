package tx_test

import (
	"bytes"
	"crypto/hmac"
	"crypto/sha256"
	"encoding/binary"
	"encoding/hex"
	"iter"
	"math"
	"math/rand"
	"slices"
	"strings"
	"testing"

	"tallystick/api"
	"tallystick/tx"
)

var (
	kinds = []api.OutKind{api.OutPlain, api.OutFund, api.OutLate, api.OutOffered, api.OutTaken}
	ways  = []api.WayKind{api.WayBoth, api.WayKey, api.WayLate, api.WayPoint, api.WayHash, api.WayTime}

	noKinds   = []api.OutKind{api.OutNone, -1, 6, 7, 256 + 1, 1<<32 + 1, math.MinInt, math.MaxInt}
	noWays    = []api.WayKind{api.WayNone, -1, 7, 8, 256 + 1, 1<<32 + 1, math.MinInt, math.MaxInt}
	noNumbers = []int64{-1, math.MinInt32, math.MinInt64, 1 << 31, 1<<31 + 1, 1 << 32, 1<<62 + 1, math.MaxInt64}
	noAmounts = []int64{0, -1, math.MinInt64, 1<<50 + 1, 1 << 51, 1 << 62, math.MaxInt64}
)

func hashOf(pick int64) api.Hash {
	var b [8]byte
	binary.BigEndian.PutUint64(b[:], uint64(pick))
	return sha256.Sum256(b[:])
}

// Which fields the kinds and ways name, as the chapter lists them.
const (
	fieldOwner = 1 << iota
	fieldOther
	fieldPoint
	fieldHash
	fieldDelay
	fieldExpiry
	fieldTag
	fieldAlso
	fieldSecret
)

func plainKind(k api.OutKind) (named int, is bool) {
	switch k {
	case api.OutPlain:
		return fieldOwner, true
	case api.OutFund:
		return fieldOwner | fieldOther, true
	case api.OutLate:
		return fieldOwner | fieldPoint | fieldDelay, true
	case api.OutOffered, api.OutTaken:
		return fieldOwner | fieldOther | fieldPoint | fieldHash | fieldDelay | fieldExpiry, true
	}
	return 0, false
}

func plainWay(w api.WayKind) (named int, is bool) {
	switch w {
	case api.WayBoth:
		return fieldTag | fieldAlso, true
	case api.WayKey, api.WayLate, api.WayTime:
		return fieldTag, true
	case api.WayPoint:
		return fieldSecret, true
	case api.WayHash:
		return fieldTag | fieldSecret, true
	}
	return 0, false
}

func isNumber(n int64) bool { return 0 <= n && n <= 1<<31-1 }

func plainOut(o api.Out) bool {
	named, is := plainKind(o.Kind)
	var zero api.Hash
	switch {
	case !is, o.Amount < 1, o.Amount > 1<<50, !isNumber(o.Delay), !isNumber(o.Expiry):
		return false
	case named&fieldOwner == 0 && o.Owner != zero, named&fieldOther == 0 && o.Other != zero, named&fieldPoint == 0 && o.Point != zero:
		return false
	case named&fieldHash == 0 && o.Hash != zero, named&fieldDelay == 0 && o.Delay != 0, named&fieldExpiry == 0 && o.Expiry != 0:
		return false
	}
	return o.Kind != api.OutFund || string(o.Owner[:]) <= string(o.Other[:])
}

func plainIn(in api.In) bool {
	named, is := plainWay(in.Way)
	var zero api.Hash
	switch {
	case !is, in.Index < 0, in.Index > 23:
		return false
	case named&fieldTag == 0 && in.Tag != zero, named&fieldAlso == 0 && in.Also != zero, named&fieldSecret == 0 && in.Secret != zero:
		return false
	}
	return true
}

func plainSum(t api.Tx) (sum float64) {
	for _, o := range t.Outs {
		sum += float64(o.Amount)
	}
	return sum
}

func plainCheck(t api.Tx) bool {
	if !isNumber(t.Number) || len(t.Ins) < 1 || len(t.Ins) > 24 || len(t.Outs) < 1 || len(t.Outs) > 24 || plainSum(t) > 1<<50 {
		return false
	}
	spent := map[string]bool{}
	for _, in := range t.Ins {
		key := string(in.Name[:]) + string(rune(in.Index))
		if !plainIn(in) || spent[key] {
			return false
		}
		spent[key] = true
	}
	return !slices.ContainsFunc(t.Outs, func(o api.Out) bool { return !plainOut(o) })
}

func plainNumber(n int64) []byte {
	switch {
	case n < 253:
		return []byte{byte(n)}
	case n < 1<<16:
		return binary.BigEndian.AppendUint16([]byte{253}, uint16(n))
	case n < 1<<32:
		return binary.BigEndian.AppendUint32([]byte{254}, uint32(n))
	}
	return binary.BigEndian.AppendUint64([]byte{255}, uint64(n))
}

// plainLaid lays a transaction, also one that may not be: a number by one call, a hash by another one; a core lays no way.
func plainLaid(t api.Tx, core bool, number func(int64), hash func(api.Hash)) {
	number(t.Number)
	number(int64(len(t.Ins)))
	some := func(is bool, h api.Hash) {
		if is {
			hash(h)
		}
	}
	for _, in := range t.Ins {
		hash(in.Name)
		number(in.Index)
		if core {
			continue
		}
		number(int64(in.Way))
		named, _ := plainWay(in.Way)
		some(named&fieldTag > 0, in.Tag)
		some(named&fieldAlso > 0, in.Also)
		some(named&fieldSecret > 0, in.Secret)
	}
	number(int64(len(t.Outs)))
	for _, o := range t.Outs {
		number(int64(o.Kind))
		number(o.Amount)
		named, _ := plainKind(o.Kind)
		some(named&fieldOwner > 0, o.Owner)
		some(named&fieldOther > 0, o.Other)
		some(named&fieldPoint > 0, o.Point)
		some(named&fieldHash > 0, o.Hash)
		if named&fieldDelay > 0 {
			number(o.Delay)
		}
		if named&fieldExpiry > 0 {
			number(o.Expiry)
		}
	}
}

func plainBytes(t api.Tx, core bool) (b []byte) {
	plainLaid(t, core, func(n int64) { b = append(b, plainNumber(n)...) }, func(h api.Hash) { b = append(b, h[:]...) })
	return b
}

func plainName(t api.Tx) api.Hash {
	once := sha256.Sum256(plainBytes(t, true))
	return sha256.Sum256(once[:])
}

func plainTag(t api.Tx, key api.Hash) api.Hash {
	m := hmac.New(sha256.New, key[:])
	name := plainName(t)
	m.Write(name[:])
	return api.Hash(m.Sum(nil))
}

func plainPoint(secret api.Hash) api.Hash {
	name := sha256.Sum256([]byte("point"))
	return sha256.Sum256(slices.Concat(name[:], name[:], secret[:]))
}

// plainParse reads what plainLaid lays; it takes numbers of any form, and tells whether the bytes are those of what it read.
func plainParse(b []byte) (t api.Tx, is bool) {
	left, lacks := b, false
	take := func(n int) []byte {
		if n > len(left) {
			lacks = true
			return make([]byte, n)
		}
		part := left[:n]
		left = left[n:]
		return part
	}
	number := func() int64 {
		switch mark := take(1)[0]; mark {
		case 253:
			return int64(binary.BigEndian.Uint16(take(2)))
		case 254:
			return int64(binary.BigEndian.Uint32(take(4)))
		case 255:
			return int64(binary.BigEndian.Uint64(take(8)))
		default:
			return int64(mark)
		}
	}
	some := func(is bool) (h api.Hash) {
		if is {
			h = api.Hash(take(32))
		}
		return h
	}
	t.Number = number()
	for many := number(); many > 0 && !lacks; many-- {
		in := api.In{Name: some(true), Index: number(), Way: api.WayKind(number())}
		named, _ := plainWay(in.Way)
		in.Tag, in.Also, in.Secret = some(named&fieldTag > 0), some(named&fieldAlso > 0), some(named&fieldSecret > 0)
		t.Ins = append(t.Ins, in)
	}
	for many := number(); many > 0 && !lacks; many-- {
		o := api.Out{Kind: api.OutKind(number()), Amount: number()}
		named, _ := plainKind(o.Kind)
		o.Owner, o.Other, o.Point, o.Hash = some(named&fieldOwner > 0), some(named&fieldOther > 0), some(named&fieldPoint > 0), some(named&fieldHash > 0)
		if named&fieldDelay > 0 {
			o.Delay = number()
		}
		if named&fieldExpiry > 0 {
			o.Expiry = number()
		}
		t.Outs = append(t.Outs, o)
	}
	return t, !lacks && plainCheck(t) && bytes.Equal(plainBytes(t, false), b)
}

// someOut is an output of a kind that names all it may, by picks; of an OutFund the keys are in order.
func someOut(kind api.OutKind, pick int64) api.Out {
	named, _ := plainKind(kind)
	o := api.Out{Kind: kind, Amount: 1000 + pick}
	hash := func(field int, to *api.Hash) {
		if named&field > 0 {
			*to = hashOf(pick*100 + int64(field))
		}
	}
	hash(fieldOwner, &o.Owner)
	hash(fieldOther, &o.Other)
	hash(fieldPoint, &o.Point)
	hash(fieldHash, &o.Hash)
	if named&fieldDelay > 0 {
		o.Delay = 300 + pick
	}
	if named&fieldExpiry > 0 {
		o.Expiry = 70000 + pick
	}
	if kind == api.OutFund && string(o.Owner[:]) > string(o.Other[:]) {
		o.Owner, o.Other = o.Other, o.Owner
	}
	return o
}

// someIn is an input of a way that names all it may, by picks.
func someIn(way api.WayKind, pick int64) api.In {
	named, _ := plainWay(way)
	in := api.In{Name: hashOf(pick*100 + 50), Index: pick % 24, Way: way}
	hash := func(field int, to *api.Hash) {
		if named&field > 0 {
			*to = hashOf(pick*100 + int64(field))
		}
	}
	hash(fieldTag, &in.Tag)
	hash(fieldAlso, &in.Also)
	hash(fieldSecret, &in.Secret)
	return in
}

// one has one input, one output, both plain.
func one() api.Tx {
	return api.Tx{Number: 7, Ins: []api.In{someIn(api.WayKey, 1)}, Outs: []api.Out{someOut(api.OutPlain, 2)}}
}

// every has an input of each way, an output of each kind.
func every() api.Tx {
	t := api.Tx{Number: 70000}
	for i, w := range ways {
		t.Ins = append(t.Ins, someIn(w, int64(i)))
	}
	for i, k := range kinds {
		t.Outs = append(t.Outs, someOut(k, int64(i)))
	}
	return t
}

// many has so many inputs and outputs.
func many(ins, outs int) api.Tx {
	t := api.Tx{Number: 1}
	for i := range ins {
		t.Ins = append(t.Ins, someIn(ways[i%len(ways)], int64(i)))
	}
	for i := range outs {
		t.Outs = append(t.Outs, someOut(kinds[i%len(kinds)], int64(i)))
	}
	return t
}

// random is one of any size that may be.
func random(r *rand.Rand) api.Tx {
	t := many(1+r.Intn(24), 1+r.Intn(24))
	edges := []int64{0, 1, 252, 253, 65535, 65536, 1<<31 - 1}
	t.Number = edges[r.Intn(len(edges))]
	for i := range t.Outs {
		t.Outs[i] = someOut(kinds[r.Intn(len(kinds))], r.Int63n(1<<40))
		t.Outs[i].Amount = 1 + r.Int63n(1<<uint(1+r.Intn(45)))
		if named, _ := plainKind(t.Outs[i].Kind); named&fieldDelay > 0 {
			t.Outs[i].Delay = edges[r.Intn(len(edges))]
		}
		if named, _ := plainKind(t.Outs[i].Kind); named&fieldExpiry > 0 {
			t.Outs[i].Expiry = edges[r.Intn(len(edges))]
		}
	}
	for i := range t.Ins {
		t.Ins[i] = someIn(ways[r.Intn(len(ways))], r.Int63n(1<<40))
		t.Ins[i].Index = r.Int63n(24)
	}
	return t
}

func cloned(t api.Tx) api.Tx {
	return api.Tx{Number: t.Number, Ins: slices.Clone(t.Ins), Outs: slices.Clone(t.Outs)}
}

// roomy has spare room behind its lists, and in that what must stay.
func roomy(t api.Tx) api.Tx {
	ins := append(slices.Clone(t.Ins), someIn(api.WayTime, 991), someIn(api.WayHash, 992))
	outs := append(slices.Clone(t.Outs), someOut(api.OutLate, 993), someOut(api.OutPlain, 994))
	return api.Tx{Number: t.Number, Ins: ins[:len(t.Ins)], Outs: outs[:len(t.Outs)]}
}

func isZero(t api.Tx) bool { return t.Number == 0 && len(t.Ins) == 0 && len(t.Outs) == 0 }

// asked asks all calls about a transaction, of which the plain words tell whether it may be.
func asked(t *testing.T, what string, x api.Tx) {
	t.Helper()
	if plainCheck(x) {
		mayBe(t, what, x)
	} else {
		mayNotBe(t, what, x)
	}
}

func mayBe(t *testing.T, what string, x api.Tx) {
	t.Helper()
	key := hashOf(5)
	if !plainCheck(x) {
		t.Fatal(what, "is none by the plain words")
	}
	if e := tx.Check(x); e != api.OK {
		t.Error(what, "Check", e)
	}
	b, e := tx.Raw(x)
	if e != api.OK || !bytes.Equal(b, plainBytes(x, false)) {
		t.Error(what, "Raw", e)
	}
	if y, e := tx.Parse(b); e != api.OK || !tx.Same(x, y) || y.Number != x.Number || !slices.Equal(x.Ins, y.Ins) || !slices.Equal(x.Outs, y.Outs) {
		t.Error(what, "Parse", e)
	}
	if h, e := tx.Name(x); e != api.OK || h != plainName(x) {
		t.Error(what, "Name", e, h)
	}
	if h, e := tx.Tag(x, key); e != api.OK || h != plainTag(x, key) {
		t.Error(what, "Tag", e, h)
	}
	if n, e := tx.Sum(x); e != api.OK || float64(n) != plainSum(x) {
		t.Error(what, "Sum", e, n)
	}
	if e := tx.Spend(x, 0, someOut(api.OutPlain, 3), 0, 0); e != api.ErrSpend {
		t.Error(what, "Spend", e)
	}
}

func mayNotBe(t *testing.T, what string, x api.Tx) {
	t.Helper()
	if e := tx.Check(x); e != api.ErrArg {
		t.Error(what, "Check", e)
	}
	if b, e := tx.Raw(x); e != api.ErrArg || len(b) > 0 {
		t.Error(what, "Raw", e, b)
	}
	if h, e := tx.Name(x); e != api.ErrArg || h != (api.Hash{}) {
		t.Error(what, "Name", e, h)
	}
	if h, e := tx.Tag(x, hashOf(5)); e != api.ErrArg || h != (api.Hash{}) {
		t.Error(what, "Tag", e, h)
	}
	if n, e := tx.Sum(x); e != api.ErrArg || n != 0 {
		t.Error(what, "Sum", e, n)
	}
	for _, in := range []int{0, 1, -1} {
		if e := tx.Spend(x, in, someOut(api.OutPlain, 3), 0, 0); e != api.ErrArg {
			t.Error(what, "Spend", in, e)
		}
	}
	// Laid as if it might be, it is another one's bytes at most.
	parsed(t, what, plainBytes(x, false))
	if !tx.Same(x, cloned(x)) {
		t.Error(what, "Same")
	}
}

// P7.1, P7.3: the chapter's examples.
func TestExamples(t *testing.T) {
	if e := tx.Check(api.Tx{Outs: one().Outs}); e != api.ErrArg {
		t.Error(e)
	}
	for _, none := range [][]byte{nil, {}} {
		if x, e := tx.Parse(none); e != api.ErrTx || !isZero(x) {
			t.Error(e, x)
		}
	}
	owner := hashOf(1)
	late := api.Out{Kind: api.OutLate, Amount: 5, Owner: owner, Point: hashOf(2), Delay: 3}
	x := api.Tx{Ins: []api.In{{Name: hashOf(3), Way: api.WayLate}}, Outs: one().Outs}
	x.Ins[0].Tag, _ = tx.Tag(x, owner)
	if e := tx.Spend(x, 0, late, 10, 12); e != api.ErrSpend {
		t.Error(e)
	}
	if e := tx.Spend(x, 0, late, 10, 13); e != api.OK {
		t.Error(e)
	}
	y := api.Tx{Ins: []api.In{{Name: hashOf(3), Way: api.WayPoint, Secret: hashOf(4)}}, Outs: one().Outs}
	if e := tx.Spend(y, 0, api.Out{Kind: api.OutPlain, Amount: 5, Owner: owner}, 0, 0); e != api.ErrSpend {
		t.Error(e)
	}
}

// P7.1: the bytes of one, written out; each part in its place, each number in its form.
func TestRawWritten(t *testing.T) {
	of := func(b byte) api.Hash { return api.Hash(bytes.Repeat([]byte{b}, 32)) }
	x := api.Tx{Number: 253, Ins: []api.In{
		{Name: of(0xa1), Index: 23, Way: api.WayBoth, Tag: of(0xa2), Also: of(0xa3)},
		{Name: of(0xa1), Index: 0, Way: api.WayKey, Tag: of(0xa4)},
		{Name: of(0xa5), Index: 1, Way: api.WayLate, Tag: of(0xa6)},
		{Name: of(0xa7), Index: 2, Way: api.WayPoint, Secret: of(0xa8)},
		{Name: of(0xa9), Index: 3, Way: api.WayHash, Tag: of(0xaa), Secret: of(0xab)},
		{Name: of(0xac), Index: 4, Way: api.WayTime, Tag: of(0xad)},
	}, Outs: []api.Out{
		{Kind: api.OutPlain, Amount: 252, Owner: of(0xb1)},
		{Kind: api.OutFund, Amount: 65536, Owner: of(0xb2), Other: of(0xb3)},
		{Kind: api.OutLate, Amount: 1 << 40, Owner: of(0xb4), Point: of(0xb5), Delay: 0x7fffffff},
		{Kind: api.OutOffered, Amount: 1, Owner: of(0xb9), Other: of(0xb6), Point: of(0xb7), Hash: of(0xb8), Delay: 5, Expiry: 6},
		{Kind: api.OutTaken, Amount: 1, Owner: of(0xba), Other: of(0xbb), Point: of(0xbc), Hash: of(0xbd), Delay: 7, Expiry: 8},
	}}
	long := func(l ...string) string {
		s := ""
		for _, part := range l {
			if part[0] >= 'a' && part[0] <= 'b' {
				part = strings.Repeat(part, 32)
			}
			s += part
		}
		return s
	}
	want := long("fd00fd", "06",
		"a1", "17", "01", "a2", "a3",
		"a1", "00", "02", "a4",
		"a5", "01", "03", "a6",
		"a7", "02", "04", "a8",
		"a9", "03", "05", "aa", "ab",
		"ac", "04", "06", "ad",
		"05",
		"01", "fc", "b1",
		"02", "fe00010000", "b2", "b3",
		"03", "ff0000010000000000", "b4", "b5", "fe7fffffff",
		"04", "01", "b9", "b6", "b7", "b8", "05", "06",
		"05", "01", "ba", "bb", "bc", "bd", "07", "08")
	b, e := tx.Raw(x)
	if e != api.OK || hex.EncodeToString(b) != want {
		t.Errorf("%d %x", e, b)
	}
	if y, e := tx.Parse(b); e != api.OK || !slices.Equal(x.Ins, y.Ins) || !slices.Equal(x.Outs, y.Outs) || y.Number != 253 {
		t.Error(e, y)
	}
	if n, e := tx.Sum(x); e != api.OK || n != 252+65536+1<<40+2 {
		t.Error(e, n)
	}
	mayBe(t, "written", x)
}

// P7.1: how many inputs and outputs there may be.
func TestCounts(t *testing.T) {
	for _, ins := range []int{0, 1, 2, 23, 24, 25, 26, 100} {
		for _, outs := range []int{0, 1, 2, 23, 24, 25, 26, 100} {
			x := many(ins, outs)
			if may := ins >= 1 && ins <= 24 && outs >= 1 && outs <= 24; may != (tx.Check(x) == api.OK) {
				t.Error(ins, outs, tx.Check(x))
			}
		}
	}
	for _, n := range []int{1, 24} {
		mayBe(t, "ins", many(n, 1))
		mayBe(t, "outs", many(1, n))
	}
	for _, n := range []int{0, 25} {
		mayNotBe(t, "ins", many(n, 1))
		mayNotBe(t, "outs", many(1, n))
	}
	mayNotBe(t, "none", api.Tx{})
	mayNotBe(t, "empty", api.Tx{Ins: []api.In{}, Outs: []api.Out{}})
	// Twenty-five of which all but the count is right: the amounts are small, no output is named twice.
	x := api.Tx{Ins: one().Ins}
	for range 25 {
		x.Outs = append(x.Outs, api.Out{Kind: api.OutPlain, Amount: 1})
	}
	mayNotBe(t, "25 outs", x)
	x.Outs = x.Outs[:24]
	mayBe(t, "24 outs", x)
	x.Ins = nil
	for i := range int64(25) {
		x.Ins = append(x.Ins, api.In{Name: hashOf(i), Way: api.WayKey})
	}
	mayNotBe(t, "25 ins", x)
	x.Ins = x.Ins[:24]
	mayBe(t, "24 ins", x)
	long := api.Tx{Ins: make([]api.In, 1<<16), Outs: one().Outs}
	if e := tx.Check(long); e != api.ErrArg {
		t.Error(e)
	}
}

// P7.1: the bounds of the Number.
func TestNumbers(t *testing.T) {
	for _, n := range []int64{0, 1, 252, 253, 65535, 65536, 1<<31 - 2, 1<<31 - 1} {
		x := every()
		x.Number = n
		mayBe(t, "number", x)
	}
	for _, n := range noNumbers {
		x := every()
		x.Number = n
		mayNotBe(t, "number", x)
	}
}

// eachOut changes an output in one field after another.
func eachOut(o api.Out) iter.Seq2[string, api.Out] {
	return func(yield func(string, api.Out) bool) {
		for _, b := range []int{0, 15, 31} {
			hashes := map[string]func(*api.Out) *api.Hash{
				"owner": func(o *api.Out) *api.Hash { return &o.Owner },
				"other": func(o *api.Out) *api.Hash { return &o.Other },
				"point": func(o *api.Out) *api.Hash { return &o.Point },
				"hash":  func(o *api.Out) *api.Hash { return &o.Hash },
			}
			for name, at := range hashes {
				x := o
				at(&x)[b] ^= 1
				if !yield(name, x) {
					return
				}
			}
		}
		for name, at := range map[string]func(*api.Out) *int64{
			"delay":  func(o *api.Out) *int64 { return &o.Delay },
			"expiry": func(o *api.Out) *int64 { return &o.Expiry },
			"amount": func(o *api.Out) *int64 { return &o.Amount },
		} {
			for _, n := range []int64{0, 1, 1<<31 - 1, 1 << 31, -1, 1 << 50, 1<<50 + 1, math.MaxInt64, math.MinInt64} {
				x := o
				*at(&x) = n
				if !yield(name, x) {
					return
				}
			}
		}
		for _, k := range append(slices.Clone(kinds), noKinds...) {
			x := o
			x.Kind = k
			if !yield("kind", x) {
				return
			}
		}
	}
}

// P7.1: outputs of each kind, with each field at its bounds, also with one that the kind does not name: also as what is to be spent.
func TestOutFields(t *testing.T) {
	right, wrong := 0, 0
	try := func(what string, o api.Out) {
		t.Helper()
		x := one()
		x.Outs[0] = o
		asked(t, what, x)
		spend := tx.Spend(one(), 0, o, 0, 0)
		if may := plainOut(o); may {
			right++
			if spend != api.ErrSpend {
				t.Error(what, o, spend)
			}
		} else {
			wrong++
			if spend != api.ErrArg {
				t.Error(what, o, spend)
			}
		}
	}
	for _, k := range kinds {
		bare := api.Out{Kind: k, Amount: 1}
		try("bare", bare)
		for what, o := range eachOut(bare) {
			try("bare "+what, o)
		}
		for what, o := range eachOut(someOut(k, 9)) {
			try("full "+what, o)
		}
		for _, n := range noNumbers {
			for _, o := range []api.Out{{Kind: k, Amount: 1, Delay: n}, {Kind: k, Amount: 1, Expiry: n}} {
				try("number", o)
			}
		}
		for _, n := range noAmounts {
			try("amount", api.Out{Kind: k, Amount: n})
		}
	}
	for _, k := range noKinds {
		try("no kind", api.Out{Kind: k, Amount: 1})
		try("no kind", api.Out{Kind: k})
	}
	try("zero", api.Out{})
	if right < 100 || wrong < 100 {
		t.Error(right, wrong)
	}
}

// P7.1: each kind names just what the chapter's list says: told here field by field.
func TestNamed(t *testing.T) {
	all := api.Out{Amount: 1, Owner: hashOf(1), Other: hashOf(2), Point: hashOf(3), Hash: hashOf(4), Delay: 5, Expiry: 6}
	if string(all.Owner[:]) > string(all.Other[:]) {
		all.Owner, all.Other = all.Other, all.Owner
	}
	only := map[api.OutKind]api.Out{
		api.OutPlain:   {Owner: all.Owner},
		api.OutFund:    {Owner: all.Owner, Other: all.Other},
		api.OutLate:    {Owner: all.Owner, Point: all.Point, Delay: 5},
		api.OutOffered: all,
		api.OutTaken:   all,
	}
	for k, o := range only {
		o.Kind, o.Amount = k, 1
		x := one()
		x.Outs[0] = o
		mayBe(t, "named", x)
		others := 0
		for _, set := range []func(*api.Out){
			func(o *api.Out) { o.Owner = all.Owner }, func(o *api.Out) { o.Other = all.Other }, func(o *api.Out) { o.Point = all.Point },
			func(o *api.Out) { o.Hash = all.Hash }, func(o *api.Out) { o.Delay = 5 }, func(o *api.Out) { o.Expiry = 6 },
		} {
			y := cloned(x)
			set(&y.Outs[0])
			if y.Outs[0] != o {
				others++
				mayNotBe(t, "not named", y)
			}
		}
		if want := map[api.OutKind]int{api.OutPlain: 5, api.OutFund: 4, api.OutLate: 3}[k]; others != want {
			t.Error(k, others)
		}
	}
	in := api.In{Name: hashOf(1), Tag: hashOf(2), Also: hashOf(3), Secret: hashOf(4)}
	onlyIn := map[api.WayKind]api.In{
		api.WayBoth: {Tag: in.Tag, Also: in.Also}, api.WayKey: {Tag: in.Tag}, api.WayLate: {Tag: in.Tag},
		api.WayPoint: {Secret: in.Secret}, api.WayHash: {Tag: in.Tag, Secret: in.Secret}, api.WayTime: {Tag: in.Tag},
	}
	for w, i := range onlyIn {
		i.Way = w
		x := one()
		x.Ins[0] = i
		mayBe(t, "named", x)
		others := 0
		for _, set := range []func(*api.In){
			func(i *api.In) { i.Tag = in.Tag }, func(i *api.In) { i.Also = in.Also }, func(i *api.In) { i.Secret = in.Secret },
		} {
			y := cloned(x)
			set(&y.Ins[0])
			if y.Ins[0] != i {
				others++
				mayNotBe(t, "not named", y)
			}
		}
		if want := map[api.WayKind]int{api.WayBoth: 1, api.WayKey: 2, api.WayLate: 2, api.WayPoint: 2, api.WayHash: 1, api.WayTime: 2}[w]; others != want {
			t.Error(w, others)
		}
	}
}

// P7.1: inputs of each way, with each field, also with one that the way does not name; places at their bounds.
func TestInFields(t *testing.T) {
	try := func(what string, in api.In) {
		t.Helper()
		x := one()
		x.Ins[0] = in
		asked(t, what, x)
		// Behind another one, too.
		y := one()
		y.Ins = append(y.Ins, in)
		asked(t, what, y)
	}
	for _, w := range append(slices.Clone(ways), noWays...) {
		for _, in := range []api.In{{Way: w}, someIn(w, 3), {Way: w, Tag: hashOf(1)}, {Way: w, Also: hashOf(1)}, {Way: w, Secret: hashOf(1)}} {
			try("field", in)
			for _, b := range []int{0, 31} {
				tag, also, secret, name := in, in, in, in
				tag.Tag[b] ^= 1
				also.Also[b] ^= 1
				secret.Secret[b] ^= 1
				name.Name[b] ^= 1
				try("tag", tag)
				try("also", also)
				try("secret", secret)
				try("name", name)
			}
		}
		for _, n := range []int64{0, 1, 22, 23, 24, 25, 252, 253, 256, -1, -24, 1 << 32, math.MinInt64, math.MaxInt64} {
			in := someIn(w, 3)
			in.Index = n
			try("index", in)
		}
	}
}

// P7.1: an OutFund's keys are in order, the same being so; those of others need not be.
func TestOwners(t *testing.T) {
	for _, b := range []int{0, 1, 16, 31} {
		low, high := hashOf(1), hashOf(1)
		low[b], high[b] = 0x7f, 0x80
		if b < 31 {
			low[b+1], high[b+1] = 0xff, 0
		}
		for _, k := range []api.OutKind{api.OutFund, api.OutOffered, api.OutTaken} {
			for _, keys := range [][2]api.Hash{{low, high}, {high, low}, {low, low}, {high, high}, {{}, {}}, {{}, low}, {low, {}}} {
				x := one()
				x.Outs[0] = api.Out{Kind: k, Amount: 9, Owner: keys[0], Other: keys[1]}
				asked(t, "owners", x)
				may := k != api.OutFund || keys[0] == keys[1] || keys == [2]api.Hash{low, high} || keys == [2]api.Hash{{}, low}
				if may != (tx.Check(x) == api.OK) {
					t.Error(k, keys, tx.Check(x))
				}
			}
		}
	}
}

// P7.1: what outputs make together is an amount.
func TestSums(t *testing.T) {
	const most = 1 << 50
	of := func(amounts ...int64) api.Tx {
		x := one()
		x.Outs = nil
		for _, n := range amounts {
			x.Outs = append(x.Outs, api.Out{Kind: api.OutPlain, Amount: n})
		}
		return x
	}
	rows := []struct {
		amounts []int64
		sum     int64
	}{
		{[]int64{1}, 1}, {[]int64{most}, most}, {[]int64{most - 1, 1}, most}, {[]int64{1, most - 1}, most}, {[]int64{1, 2, 3}, 6},
		{[]int64{most / 2, most / 2}, most}, {[]int64{most / 4, most / 4, most / 4, most / 4}, most},
		{slices.Repeat([]int64{most / 32}, 24), most / 32 * 24}, {append(slices.Repeat([]int64{most / 23}, 23), most%23), most},
	}
	for _, row := range rows {
		x := of(row.amounts...)
		mayBe(t, "sum", x)
		if n, e := tx.Sum(x); n != row.sum || e != api.OK {
			t.Error(row, n, e)
		}
	}
	for _, amounts := range [][]int64{
		{0}, {-1}, {most + 1}, {most, 1}, {1, most}, {most, most}, {most / 2, most / 2, 1}, {1, 0}, {0, 1}, {most, -1, 1}, {5, -1}, {most + 1, -1},
		slices.Repeat([]int64{most}, 24), append(slices.Repeat([]int64{most / 23}, 23), most%23+1), {math.MaxInt64, math.MaxInt64, 2}, {math.MaxInt64}, {math.MinInt64}, {math.MinInt64, math.MinInt64, 1},
	} {
		mayNotBe(t, "sum", of(amounts...))
	}
}

// P7.1: no two inputs are of one output, however else they differ, wherever they stand.
func TestOneTwice(t *testing.T) {
	base := many(24, 1)
	for first := range 24 {
		for second := range 24 {
			if first == second {
				continue
			}
			x := cloned(base)
			x.Ins[second].Name, x.Ins[second].Index = x.Ins[first].Name, x.Ins[first].Index
			mayNotBe(t, "twice", x)
			x.Ins[second].Index = (x.Ins[first].Index + 1) % 24
			mayBe(t, "another place", x)
			x.Ins[second].Index = x.Ins[first].Index
			x.Ins[second].Name[31] ^= 1
			mayBe(t, "another name", x)
		}
	}
	var all api.Tx
	for i := range int64(24) {
		all.Ins = append(all.Ins, api.In{Index: 23 - i, Way: api.WayKey})
	}
	all.Outs = one().Outs
	mayBe(t, "all places of one name", all)
	all.Ins[23].Index = 23
	mayNotBe(t, "the first one's place at the end", all)
}

// P7.1, P7.4: bytes go there and back, of transactions of all sizes.
func TestThereAndBack(t *testing.T) {
	mayBe(t, "one", one())
	mayBe(t, "every", every())
	mayBe(t, "most", many(24, 24))
	r := rand.New(rand.NewSource(1))
	for range 300 {
		mayBe(t, "random", random(r))
	}
}

// parsed asks Parse about bytes, of which a plain reader tells whether they are a transaction's.
func parsed(t *testing.T, what string, b []byte) (is bool) {
	t.Helper()
	want, is := plainParse(b)
	got, e := tx.Parse(b)
	switch {
	case !is && (e != api.ErrTx || !isZero(got)):
		t.Errorf("%s: %x: %d", what, b, e)
	case is && (e != api.OK || !tx.Same(got, want)):
		t.Errorf("%s: %x: %d", what, b, e)
	case is:
		if again, e := tx.Raw(got); e != api.OK || !bytes.Equal(again, b) {
			t.Errorf("%s: %x: %d %x", what, b, e, again)
		}
	}
	return is
}

// P7.1: bytes that lack, that are more, that are others.
func TestParseNear(t *testing.T) {
	for _, x := range []api.Tx{one(), every()} {
		b := plainBytes(x, false)
		for n := range len(b) {
			if y, e := tx.Parse(b[:n:n]); e != api.ErrTx || !isZero(y) {
				t.Error("cut", n, e)
			}
			// What lies behind the bytes is not theirs.
			if y, e := tx.Parse(b[:n]); e != api.ErrTx || !isZero(y) {
				t.Error("cut, with room", n, e)
			}
			if parsed(t, "without one", slices.Delete(slices.Clone(b), n, n+1)) {
				t.Error("without", n)
			}
			parsed(t, "one more", slices.Insert(slices.Clone(b), n, 0))
			parsed(t, "one more", slices.Insert(slices.Clone(b), n, 1))
		}
		for _, more := range [][]byte{{0}, {1}, {255}, {0, 0}, b} {
			if y, e := tx.Parse(slices.Concat(b, more)); e != api.ErrTx || !isZero(y) {
				t.Error("longer", more, e)
			}
		}
		if _, e := tx.Parse(plainBytes(x, true)); e != api.ErrTx {
			t.Error("core", e)
		}
	}
	right := 0
	another := func(b []byte, n int, other byte) {
		c := slices.Clone(b)
		c[n] = other
		if parsed(t, "one byte another", c) {
			right++
		}
	}
	b := plainBytes(one(), false)
	for n := range len(b) {
		for other := range 256 {
			another(b, n, byte(other))
		}
	}
	b = plainBytes(every(), false)
	for n := range len(b) {
		for other := range 8 {
			another(b, n, byte(other))
			another(b, n, b[n]^1<<other)
		}
		for _, other := range []byte{23, 24, 25, 252, 253, 254, 255} {
			another(b, n, other)
		}
	}
	if right < 1000 {
		t.Error("hardly another one was right", right)
	}
}

// P7.1: each number is read in its shortest form alone, and within its bounds alone.
func TestParseForms(t *testing.T) {
	x := every()
	count := 0
	plainLaid(x, false, func(int64) { count++ }, func(api.Hash) {})
	if count != 2+2*6+1+2*5+1+2+2 {
		t.Fatal(count)
	}
	forms := []func(int64) []byte{
		func(n int64) []byte { return binary.BigEndian.AppendUint16([]byte{253}, uint16(n)) },
		func(n int64) []byte { return binary.BigEndian.AppendUint32([]byte{254}, uint32(n)) },
		func(n int64) []byte { return binary.BigEndian.AppendUint64([]byte{255}, uint64(n)) },
		func(n int64) []byte { return plainNumber(n + 1<<31) },
		func(n int64) []byte { return plainNumber(n + 1<<32) },
		func(n int64) []byte { return plainNumber(n + 1<<50) },
		func(n int64) []byte { return plainNumber(1 << 62) },
		func(n int64) []byte { return binary.BigEndian.AppendUint64([]byte{255}, math.MaxUint64) },
	}
	for place := range count {
		others := 0
		for _, form := range forms {
			var b []byte
			at := 0
			plainLaid(x, false, func(n int64) {
				lay := plainNumber
				if at == place {
					lay = form
				}
				b = append(b, lay(n)...)
				at++
			}, func(h api.Hash) { b = append(b, h[:]...) })
			if bytes.Equal(b, plainBytes(x, false)) {
				continue
			}
			// Only amounts go so high; they stand behind kinds.
			if !parsed(t, "form", b) {
				others++
			}
		}
		if others < 5 {
			t.Error(place, others)
		}
	}
}

// P7.1: bytes that would be those of what may not be.
func TestParseNone(t *testing.T) {
	for what, change := range map[string]func(*api.Tx){
		"number":       func(x *api.Tx) { x.Number = 1 << 31 },
		"no inputs":    func(x *api.Tx) { x.Ins = nil },
		"no outputs":   func(x *api.Tx) { x.Outs = nil },
		"many inputs":  func(x *api.Tx) { x.Ins = many(25, 1).Ins },
		"many outputs": func(x *api.Tx) { x.Outs = many(1, 25).Outs },
		"index":        func(x *api.Tx) { x.Ins[5].Index = 24 },
		"no way":       func(x *api.Tx) { x.Ins[5].Way = 0 },
		"way":          func(x *api.Tx) { x.Ins[5].Way = 7 },
		"twice":        func(x *api.Tx) { x.Ins[5].Name, x.Ins[5].Index = x.Ins[0].Name, x.Ins[0].Index },
		"no kind":      func(x *api.Tx) { x.Outs[4].Kind = 0 },
		"kind":         func(x *api.Tx) { x.Outs[4].Kind = 6 },
		"nothing":      func(x *api.Tx) { x.Outs[0].Amount = 0 },
		"amount":       func(x *api.Tx) { x.Outs[0].Amount = 1<<50 + 1 },
		"sum":          func(x *api.Tx) { x.Outs[0].Amount = 1 << 50 },
		"delay":        func(x *api.Tx) { x.Outs[2].Delay = 1 << 31 },
		"expiry":       func(x *api.Tx) { x.Outs[3].Expiry = 1 << 31 },
		"owners":       func(x *api.Tx) { x.Outs[1].Owner, x.Outs[1].Other = x.Outs[1].Other, x.Outs[1].Owner },
	} {
		x := every()
		change(&x)
		mayNotBe(t, what, x)
		if y, e := tx.Parse(plainBytes(x, false)); e != api.ErrTx || !isZero(y) {
			t.Error(what, "Parse", e)
		}
	}
	for _, b := range [][]byte{{0}, {0, 0}, {0, 0, 0}, {0, 1}, {0, 255, 64, 0, 0, 0, 0, 0, 0, 0}, {0, 254, 255, 255, 255, 255}, bytes.Repeat([]byte{0}, 1000), bytes.Repeat([]byte{1}, 1000), bytes.Repeat([]byte{255}, 1000), make([]byte, 1<<20)} {
		if parsed(t, "none", b) {
			t.Error(b)
		}
	}
	r := rand.New(rand.NewSource(2))
	for range 2000 {
		b := make([]byte, r.Intn(200))
		r.Read(b)
		parsed(t, "random", b)
	}
}

// P7.2: a name, written out by the library: the core hashed twice; and a tag.
func TestNameTag(t *testing.T) {
	x := one()
	core := []byte{7, 1}
	core = append(core, x.Ins[0].Name[:]...)
	core = append(core, byte(x.Ins[0].Index), 1, 1, 253, 3, 234)
	core = append(core, x.Outs[0].Owner[:]...)
	once := sha256.Sum256(core)
	want := api.Hash(sha256.Sum256(once[:]))
	if h, e := tx.Name(x); h != want || e != api.OK {
		t.Errorf("%x %d", h, e)
	}
	for _, key := range []api.Hash{{}, hashOf(1), hashOf(2)} {
		m := hmac.New(sha256.New, key[:])
		m.Write(want[:])
		if h, e := tx.Tag(x, key); h != api.Hash(m.Sum(nil)) || e != api.OK {
			t.Errorf("%x %d", h, e)
		}
	}
}

// P7.4: names do not hang on ways, tags, secrets.
func TestNameHangsNot(t *testing.T) {
	x := every()
	name, _ := tx.Name(x)
	tag, _ := tx.Tag(x, hashOf(1))
	same := func(what string, y api.Tx) {
		t.Helper()
		if h, e := tx.Name(y); h != name || e != api.OK {
			t.Error(what, e)
		}
		if h, e := tx.Tag(y, hashOf(1)); h != tag || e != api.OK {
			t.Error(what, e)
		}
		if tx.Same(x, y) != slices.Equal(x.Ins, y.Ins) {
			t.Error(what)
		}
	}
	for i := range x.Ins {
		for _, w := range ways {
			y := cloned(x)
			in := someIn(w, 77)
			in.Name, in.Index = x.Ins[i].Name, x.Ins[i].Index
			y.Ins[i] = in
			same("way", y)
			y.Ins[i] = api.In{Name: in.Name, Index: in.Index, Way: w}
			same("bare way", y)
		}
	}
	y := cloned(x)
	for i, in := range y.Ins {
		y.Ins[i] = api.In{Name: in.Name, Index: in.Index, Way: api.WayKey}
	}
	same("all bare", y)
	// Though bytes hang on them.
	if a, _ := tx.Raw(x); bytes.Equal(a, plainBytes(y, false)) {
		t.Error("bytes")
	}
}

// P7.4, P7.1: with another number, input's output, or output a transaction has another name, and is not the same.
func TestNameHangs(t *testing.T) {
	x := every()
	seen := map[api.Hash]string{}
	first, _ := tx.Name(x)
	seen[first] = "itself"
	other := func(what string, y api.Tx) {
		t.Helper()
		h, e := tx.Name(y)
		if e != api.OK {
			t.Fatal(what, e)
		}
		if before, is := seen[h]; is {
			t.Error(what, "as", before)
		}
		seen[h] = what
		if tx.Same(x, y) || tx.Same(y, x) {
			t.Error(what, "same")
		}
	}
	for _, n := range []int64{0, 1, x.Number - 1, x.Number + 1, api.MaxNumber} {
		y := cloned(x)
		y.Number = n
		other("number", y)
	}
	for i := range x.Ins {
		for bit := 0; bit < 256; bit += 15 {
			y := cloned(x)
			y.Ins[i].Name[bit/8] ^= 1 << (bit % 8)
			other("input's name", y)
		}
		for n := range int64(24) {
			if n != x.Ins[i].Index {
				y := cloned(x)
				y.Ins[i].Index = n
				other("input's place", y)
			}
		}
		y := cloned(x)
		y.Ins = slices.Delete(y.Ins, i, i+1)
		other("without an input", y)
		if i > 0 {
			y := cloned(x)
			y.Ins[0], y.Ins[i] = y.Ins[i], y.Ins[0]
			other("inputs' order", y)
		}
	}
	for i, o := range x.Outs {
		told := map[api.Out]bool{o: true}
		for what, changed := range eachOut(o) {
			y := cloned(x)
			y.Outs[i] = changed
			if plainCheck(y) && !told[changed] {
				other("output's "+what, y)
			}
			told[changed] = true
		}
		y := cloned(x)
		y.Outs = slices.Delete(y.Outs, i, i+1)
		other("without an output", y)
		if i > 0 {
			y := cloned(x)
			y.Outs[0], y.Outs[i] = y.Outs[i], y.Outs[0]
			other("outputs' order", y)
		}
	}
	more := cloned(x)
	more.Ins = append(more.Ins, someIn(api.WayKey, 20))
	other("one more input", more)
	more = cloned(x)
	more.Outs = append(more.Outs, someOut(api.OutPlain, 20))
	other("one more output", more)
	if len(seen) < 200 {
		t.Error(len(seen))
	}
}

// P7.1: Same, also of what may not be.
func TestSame(t *testing.T) {
	x := every()
	if !tx.Same(x, x) || !tx.Same(x, cloned(x)) || !tx.Same(roomy(x), x) {
		t.Error("itself")
	}
	if !tx.Same(api.Tx{}, api.Tx{}) || !tx.Same(api.Tx{Ins: []api.In{}}, api.Tx{Outs: []api.Out{}}) {
		t.Error("nothing")
	}
	if tx.Same(api.Tx{}, x) || tx.Same(x, api.Tx{}) || tx.Same(api.Tx{}, api.Tx{Number: 1}) || tx.Same(api.Tx{Ins: make([]api.In, 1)}, api.Tx{}) || tx.Same(api.Tx{Outs: make([]api.Out, 1)}, api.Tx{}) {
		t.Error("of nothing")
	}
	for i := range x.Ins {
		for _, change := range []func(*api.In){
			func(in *api.In) { in.Name[31] ^= 1 }, func(in *api.In) { in.Index++ }, func(in *api.In) { in.Way++ },
			func(in *api.In) { in.Tag[0] ^= 1 }, func(in *api.In) { in.Also[0] ^= 1 }, func(in *api.In) { in.Secret[0] ^= 1 },
		} {
			y := cloned(x)
			change(&y.Ins[i])
			if tx.Same(x, y) || tx.Same(y, x) {
				t.Error("input", i)
			}
		}
	}
	for i, o := range x.Outs {
		for what, changed := range eachOut(o) {
			y := cloned(x)
			y.Outs[i] = changed
			if tx.Same(x, y) != (changed == o) || tx.Same(y, x) != (changed == o) {
				t.Error("output", i, what)
			}
		}
	}
}

// plainSpend tells by the chapter's words whether a spend is right, of what may be.
func plainSpend(x api.Tx, at int, o api.Out, since, height int64) bool {
	in := x.Ins[at]
	owner, other := in.Tag == plainTag(x, o.Owner), in.Tag == plainTag(x, o.Other)
	hash := sha256.Sum256(in.Secret[:]) == o.Hash
	due := height >= o.Expiry
	point := in.Way == api.WayPoint && plainPoint(in.Secret) == o.Point
	switch o.Kind {
	case api.OutPlain:
		return in.Way == api.WayKey && owner
	case api.OutFund:
		return in.Way == api.WayBoth && owner && in.Also == plainTag(x, o.Other)
	case api.OutLate:
		return in.Way == api.WayLate && owner && height >= since+o.Delay || point
	case api.OutOffered:
		return in.Way == api.WayHash && other && hash || in.Way == api.WayTime && owner && due || point
	case api.OutTaken:
		return in.Way == api.WayHash && owner && hash || in.Way == api.WayTime && other && due || point
	}
	return false
}

var (
	ownerKey = api.Hash{1}
	otherKey = api.Hash{2}
	pointsOf = hashOf(31)
	hashesOf = hashOf(32)
)

// toSpend is an output of a kind whose point, hash and keys are those above.
func toSpend(kind api.OutKind, delay, expiry int64) api.Out {
	o := someOut(kind, 1)
	set := func(h *api.Hash, to api.Hash) {
		if *h != (api.Hash{}) {
			*h = to
		}
	}
	set(&o.Owner, ownerKey)
	set(&o.Other, otherKey)
	set(&o.Point, plainPoint(pointsOf))
	set(&o.Hash, sha256.Sum256(hashesOf[:]))
	if o.Delay > 0 {
		o.Delay = delay
	}
	if o.Expiry > 0 {
		o.Expiry = expiry
	}
	return o
}

// spender has an input by a way in some place, with tags by keys and a secret, as far as the way names them.
func spender(way api.WayKind, at int, tag, also, secret api.Hash) api.Tx {
	x := many(5, 3)
	named, _ := plainWay(way)
	in := api.In{Name: hashOf(999), Index: 4, Way: way}
	x.Ins[at] = in
	if named&fieldTag > 0 {
		in.Tag = plainTag(x, tag)
	}
	if named&fieldAlso > 0 {
		in.Also = plainTag(x, also)
	}
	if named&fieldSecret > 0 {
		in.Secret = secret
	}
	x.Ins[at] = in
	return x
}

// P7.3: each way of each kind of output, by each key and secret, at each height about those at which it becomes right; each answer as the plain words tell it, and as many right ones as there are.
func TestSpend(t *testing.T) {
	const delay, expiry, since = 3, 20, 10
	heights := []int64{10, 11, 12, 13, 14, 19, 20, 21, 1000, api.MaxNumber}
	keys := []api.Hash{ownerKey, otherKey, {3}}
	right := map[string]int{}
	for _, kind := range kinds {
		o := toSpend(kind, delay, expiry)
		for _, way := range ways {
			for at := range 5 {
				for _, tag := range keys {
					for _, also := range keys {
						for _, secret := range []api.Hash{pointsOf, hashesOf, hashOf(33), {}} {
							x := spender(way, at, tag, also, secret)
							if at > 1 && (also != keys[0] || secret == hashOf(33)) {
								continue
							}
							for _, height := range heights {
								want := api.ErrSpend
								if plainSpend(x, at, o, since, height) {
									want = api.OK
									right[string(rune('0'+kind))+string(rune('0'+way))]++
								}
								if e := tx.Spend(x, at, o, since, height); e != want {
									t.Fatal(kind, way, at, tag[0], also[0], height, e, want)
								}
							}
						}
					}
				}
			}
		}
	}
	// Of each kind the ways by which it is spent at all.
	for _, pair := range []string{"12", "21", "33", "34", "44", "45", "46", "54", "55", "56"} {
		if right[pair] == 0 {
			t.Error("never right", pair)
		}
		delete(right, pair)
	}
	if len(right) > 0 {
		t.Error("right, too", right)
	}
}

// spendRow is a right spend, and the height from which on it is so.
type spendRow struct {
	kind              api.OutKind
	way               api.WayKind
	tag, also, secret api.Hash
	from              int64
}

// spendRows are the right spends of outputs that stand at 10, with Delay 3, Expiry 20.
func spendRows() []spendRow {
	none := api.Hash{}
	return []spendRow{
		{api.OutPlain, api.WayKey, ownerKey, none, none, 10},
		{api.OutFund, api.WayBoth, ownerKey, otherKey, none, 10},
		{api.OutLate, api.WayLate, ownerKey, none, none, 13},
		{api.OutLate, api.WayPoint, none, none, pointsOf, 10},
		{api.OutOffered, api.WayHash, otherKey, none, hashesOf, 10},
		{api.OutOffered, api.WayTime, ownerKey, none, none, 20},
		{api.OutOffered, api.WayPoint, none, none, pointsOf, 10},
		{api.OutTaken, api.WayHash, ownerKey, none, hashesOf, 10},
		{api.OutTaken, api.WayTime, otherKey, none, none, 20},
		{api.OutTaken, api.WayPoint, none, none, pointsOf, 10},
	}
}

// P7.3: the right spends, one by one; at the height at which each becomes right, one below, and with each one thing wrong.
func TestSpendRows(t *testing.T) {
	for _, row := range spendRows() {
		o := toSpend(row.kind, 3, 20)
		x := spender(row.way, 2, row.tag, row.also, row.secret)
		ask := func(what string, want api.Errno, x api.Tx, o api.Out, height int64) {
			t.Helper()
			if e := tx.Spend(x, 2, o, 10, height); e != want {
				t.Error(row.kind, row.way, what, e)
			}
		}
		for _, height := range []int64{row.from, row.from + 1, row.from + 100, api.MaxNumber} {
			ask("right", api.OK, x, o, height)
		}
		for height := int64(10); height < row.from; height++ {
			ask("early", api.ErrSpend, x, o, height)
		}
		named, _ := plainWay(row.way)
		wrong := map[string]func(*api.Tx, *api.Out){
			"number":         func(x *api.Tx, _ *api.Out) { x.Number++ },
			"other input":    func(x *api.Tx, _ *api.Out) { x.Ins[0].Name[0] ^= 1 },
			"own input":      func(x *api.Tx, _ *api.Out) { x.Ins[2].Index++ },
			"output amount":  func(x *api.Tx, _ *api.Out) { x.Outs[0].Amount++ },
			"less inputs":    func(x *api.Tx, _ *api.Out) { x.Ins = x.Ins[:3] },
			"tag":            func(x *api.Tx, _ *api.Out) { x.Ins[2].Tag[31] ^= 1 },
			"tag's begin":    func(x *api.Tx, _ *api.Out) { x.Ins[2].Tag[0] ^= 128 },
			"no tag":         func(x *api.Tx, _ *api.Out) { x.Ins[2].Tag = api.Hash{} },
			"also":           func(x *api.Tx, _ *api.Out) { x.Ins[2].Also[31] ^= 1 },
			"no also":        func(x *api.Tx, _ *api.Out) { x.Ins[2].Also = api.Hash{} },
			"turned tags":    func(x *api.Tx, _ *api.Out) { x.Ins[2].Tag, x.Ins[2].Also = x.Ins[2].Also, x.Ins[2].Tag },
			"one tag twice":  func(x *api.Tx, _ *api.Out) { x.Ins[2].Also = x.Ins[2].Tag },
			"secret":         func(x *api.Tx, _ *api.Out) { x.Ins[2].Secret[31] ^= 1 },
			"owner":          func(_ *api.Tx, o *api.Out) { o.Owner[0]-- },
			"other":          func(_ *api.Tx, o *api.Out) { o.Other[0]++ },
			"point":          func(_ *api.Tx, o *api.Out) { o.Point[31] ^= 1 },
			"hash":           func(_ *api.Tx, o *api.Out) { o.Hash[31] ^= 1 },
			"point for hash": func(_ *api.Tx, o *api.Out) { o.Point, o.Hash = o.Hash, o.Point },
			"another other": func(x *api.Tx, _ *api.Out) {
				x.Ins[1].Way, x.Ins[1].Tag, x.Ins[1].Secret = api.WayKey, hashOf(8), api.Hash{}
			},
		}
		for what, change := range wrong {
			y, p := cloned(x), o
			change(&y, &p)
			if !plainCheck(y) || !plainOut(p) {
				continue
			}
			want := api.ErrSpend
			if plainSpend(y, 2, p, 10, api.MaxNumber) {
				want = api.OK
			}
			ask(what, want, y, p, api.MaxNumber)
		}
		// What must be wrong is told once more, not by the plain words alone.
		y := cloned(x)
		y.Number++
		must := api.ErrSpend
		if row.way == api.WayPoint {
			must = api.OK
		}
		ask("tag of another transaction", must, y, o, api.MaxNumber)
		if named&fieldTag > 0 {
			y := cloned(x)
			y.Ins[2].Tag = plainName(x)
			ask("name for tag", api.ErrSpend, y, o, api.MaxNumber)
			y.Ins[2].Tag = plainTag(x, api.Hash{7})
			ask("stranger's tag", api.ErrSpend, y, o, api.MaxNumber)
		}
		if named&fieldSecret > 0 {
			y := cloned(x)
			for _, secret := range []api.Hash{o.Point, o.Hash, {}, hashOf(1), sha256.Sum256(row.secret[:])} {
				y.Ins[2].Secret = secret
				ask("another secret", api.ErrSpend, y, o, api.MaxNumber)
			}
		}
		// Another input is another spend.
		if e := tx.Spend(x, 1, o, 10, api.MaxNumber); e != api.ErrSpend {
			t.Error(row.kind, row.way, "another input", e)
		}
		// Which output the input names is not asked, just which one is handed in.
		p := o
		p.Amount = 1
		ask("another amount", api.OK, x, p, api.MaxNumber)
	}
}

// P7.3: a way that an output's kind has not is not right, whatever it names.
func TestSpendNoWay(t *testing.T) {
	may := map[api.OutKind][]api.WayKind{}
	for _, row := range spendRows() {
		may[row.kind] = append(may[row.kind], row.way)
	}
	for _, kind := range kinds {
		// All is by one key, one secret, at once.
		key, secret := hashOf(1), hashOf(2)
		o := toSpend(kind, 0, 0)
		for _, h := range []*api.Hash{&o.Owner, &o.Other} {
			if *h != (api.Hash{}) {
				*h = key
			}
		}
		for _, way := range ways {
			for _, target := range []api.Hash{plainPoint(secret), sha256.Sum256(secret[:])} {
				if o.Point != (api.Hash{}) {
					o.Point = target
				}
				if o.Hash != (api.Hash{}) {
					o.Hash = target
				}
				x := spender(way, 0, key, key, secret)
				fits := way != api.WayPoint && way != api.WayHash || way == api.WayPoint == (target == plainPoint(secret))
				want := api.ErrSpend
				if slices.Contains(may[kind], way) && fits {
					want = api.OK
				}
				if e := tx.Spend(x, 0, o, 5, 5); e != want {
					t.Error(kind, way, e, want)
				}
			}
		}
	}
}

// P7.3: delays and expiries at their bounds, also with heights that are huge: no sum wraps round.
func TestSpendHeights(t *testing.T) {
	x := spender(api.WayLate, 0, ownerKey, api.Hash{}, api.Hash{})
	rows := []struct {
		delay, since, height int64
		e                    api.Errno
	}{
		{0, 0, 0, api.OK}, {0, 10, 10, api.OK}, {0, api.MaxNumber, api.MaxNumber, api.OK},
		{1, 0, 0, api.ErrSpend}, {1, 0, 1, api.OK}, {1, 10, 10, api.ErrSpend}, {1, 10, 11, api.OK},
		{3, 10, 9, api.ErrArg}, {3, 10, 12, api.ErrSpend}, {3, 10, 13, api.OK}, {3, 0, 2, api.ErrSpend}, {3, 0, 3, api.OK}, {3, 3, 3, api.ErrSpend},
		{api.MaxNumber, 0, api.MaxNumber, api.OK}, {api.MaxNumber, 0, api.MaxNumber - 1, api.ErrSpend}, {api.MaxNumber, 1, api.MaxNumber, api.ErrSpend},
		{api.MaxNumber, api.MaxNumber, api.MaxNumber, api.ErrSpend}, {api.MaxNumber, api.MaxNumber, 2*api.MaxNumber - 1, api.ErrSpend}, {api.MaxNumber, api.MaxNumber, 2 * api.MaxNumber, api.OK},
		// The chapter names no height that is too great.
		{3, 1 << 62, 1<<62 + 2, api.ErrSpend}, {3, 1 << 62, 1<<62 + 3, api.OK}, {0, math.MaxInt64, math.MaxInt64, api.OK}, {1, math.MaxInt64, math.MaxInt64, api.ErrSpend},
		{3, math.MaxInt64 - 2, math.MaxInt64, api.ErrSpend}, {3, math.MaxInt64 - 3, math.MaxInt64, api.OK}, {api.MaxNumber, 0, math.MaxInt64, api.OK}, {0, math.MaxInt64, math.MaxInt64 - 1, api.ErrArg},
	}
	for _, row := range rows {
		if e := tx.Spend(x, 0, toSpend(api.OutLate, row.delay, 0), row.since, row.height); e != row.e {
			t.Error(row, e)
		}
	}
	for kind, key := range map[api.OutKind]api.Hash{api.OutOffered: ownerKey, api.OutTaken: otherKey} {
		x := spender(api.WayTime, 0, key, api.Hash{}, api.Hash{})
		for _, row := range []struct {
			expiry, since, height int64
			e                     api.Errno
		}{
			{0, 0, 0, api.OK}, {1, 0, 0, api.ErrSpend}, {1, 0, 1, api.OK}, {1, 1, 1, api.OK}, {20, 0, 19, api.ErrSpend}, {20, 0, 20, api.OK}, {20, 19, 19, api.ErrSpend}, {20, 20, 20, api.OK}, {20, 21, 21, api.OK}, {20, 21, 20, api.ErrArg},
			{api.MaxNumber, 0, api.MaxNumber - 1, api.ErrSpend}, {api.MaxNumber, 0, api.MaxNumber, api.OK}, {api.MaxNumber, api.MaxNumber, api.MaxNumber, api.OK}, {20, 0, math.MaxInt64, api.OK},
		} {
			// What is delayed there is something else.
			for _, delay := range []int64{0, 5, api.MaxNumber} {
				if e := tx.Spend(x, 0, toSpend(kind, delay, row.expiry), row.since, row.height); e != row.e {
					t.Error(kind, delay, row, e)
				}
			}
		}
	}
}

// P7.4: what is right by WayPoint is so at each height.
func TestSpendPoint(t *testing.T) {
	x := spender(api.WayPoint, 3, api.Hash{}, api.Hash{}, pointsOf)
	for _, kind := range []api.OutKind{api.OutLate, api.OutOffered, api.OutTaken} {
		for _, late := range []int64{0, 1, 1000, api.MaxNumber} {
			o := toSpend(kind, late, late)
			for _, since := range []int64{0, 1, 10, api.MaxNumber} {
				for _, height := range []int64{0, 1, 9, 10, 11, 999, 1000, 1001, api.MaxNumber - 1, api.MaxNumber} {
					want := api.OK
					if height < since {
						want = api.ErrArg
					}
					if e := tx.Spend(x, 3, o, since, height); e != want {
						t.Error(kind, late, since, height, e)
					}
				}
			}
		}
	}
}

// P7.3: ErrArg of each thing that may not be, also where the spend would not be right.
func TestSpendNone(t *testing.T) {
	x := spender(api.WayKey, 0, ownerKey, api.Hash{}, api.Hash{})
	o := toSpend(api.OutPlain, 0, 0)
	if e := tx.Spend(x, 0, o, 0, 0); e != api.OK {
		t.Fatal(e)
	}
	wrong := o
	wrong.Owner[5] = 9
	for _, out := range []api.Out{o, wrong} {
		for _, in := range []int{-1, 5, 6, 24, math.MinInt, math.MaxInt, 1 << 32, -1 << 32} {
			if e := tx.Spend(x, in, out, 0, 0); e != api.ErrArg {
				t.Error(in, e)
			}
		}
		for _, heights := range [][2]int64{{-1, 0}, {0, -1}, {-1, -1}, {-2, -1}, {1, 0}, {10, 9}, {math.MinInt64, 0}, {0, math.MinInt64}, {math.MinInt64, math.MaxInt64}, {math.MaxInt64, math.MinInt64}, {math.MinInt64, math.MinInt64}, {math.MaxInt64, 0}, {api.MaxNumber, api.MaxNumber - 1}} {
			if e := tx.Spend(x, 0, out, heights[0], heights[1]); e != api.ErrArg {
				t.Error(heights, e)
			}
		}
		bad := cloned(x)
		bad.Number = -1
		if e := tx.Spend(bad, 0, out, 0, 0); e != api.ErrArg {
			t.Error(e)
		}
		// Another input that may not be counts, too.
		bad = cloned(x)
		bad.Ins[4].Way = 0
		if e := tx.Spend(bad, 0, out, 0, 0); e != api.ErrArg {
			t.Error(e)
		}
	}
	for _, in := range []int{0, 1, 2, 3, 4} {
		for _, bad := range []api.Out{{}, {Kind: api.OutPlain}, {Kind: api.OutPlain, Amount: 1, Delay: 1}, {Kind: 6, Amount: 1}, {Kind: api.OutFund, Amount: 1, Owner: api.Hash{2}, Other: api.Hash{1}}, {Kind: api.OutPlain, Amount: 1<<50 + 1}} {
			if e := tx.Spend(x, in, bad, 0, 0); e != api.ErrArg {
				t.Error(in, bad, e)
			}
		}
	}
	if e := tx.Spend(api.Tx{}, 0, o, 0, 0); e != api.ErrArg {
		t.Error(e)
	}
}

type seen struct {
	at int
	in api.In
}

func collect(seq iter.Seq2[int, api.In]) (l []seen) {
	for at, in := range seq {
		l = append(l, seen{at, in})
	}
	return l
}

// P7.3: the inputs of one transaction's outputs, with their places; left, and gone over again.
func TestSpends(t *testing.T) {
	x := many(12, 1)
	name := hashOf(1000)
	var want []seen
	for i, at := range []int{1, 2, 6, 11} {
		x.Ins[at].Name, x.Ins[at].Index = name, int64(20-i)
		want = append(want, seen{at, x.Ins[at]})
	}
	if e := tx.Check(x); e != api.OK {
		t.Fatal(e)
	}
	seq := tx.Spends(x, name)
	if l := collect(seq); !slices.Equal(l, want) {
		t.Error(l)
	}
	for left := 1; left <= len(want); left++ {
		var l []seen
		for at, in := range seq {
			l = append(l, seen{at, in})
			if len(l) == left {
				break
			}
		}
		if !slices.Equal(l, want[:left]) {
			t.Error("left", left, l)
		}
		if l := collect(seq); !slices.Equal(l, want) {
			t.Error("again behind", left, l)
		}
	}
	for range seq {
		if l := collect(seq); !slices.Equal(l, want) {
			t.Error("in the midst", l)
		}
	}
	// Each of the other names has the one input that it had.
	for i, in := range x.Ins {
		if in.Name != name {
			if l := collect(tx.Spends(x, in.Name)); len(l) != 1 || l[0] != (seen{i, in}) {
				t.Error(i, l)
			}
		}
	}
	near := name
	near[31] ^= 1
	for _, no := range []api.Hash{{}, near, hashOf(1)} {
		if l := collect(tx.Spends(x, no)); len(l) > 0 {
			t.Error(l)
		}
	}
	own, _ := tx.Name(x)
	if l := collect(tx.Spends(x, own)); len(l) > 0 {
		t.Error(l)
	}
	if l := collect(tx.Spends(api.Tx{}, api.Hash{})); len(l) > 0 {
		t.Error(l)
	}
	// What is handed in is not kept.
	held := cloned(x)
	seq = tx.Spends(held, name)
	clear(held.Ins)
	if l := collect(seq); !slices.Equal(l, want) {
		t.Error("kept", l)
	}
}

// What is handed in is not changed, spare room behind it included, and answers share no memory with it, nor with one another.
func TestApart(t *testing.T) {
	x := roomy(every())
	before := api.Tx{Number: x.Number, Ins: slices.Clone(x.Ins[:len(x.Ins)+2]), Outs: slices.Clone(x.Outs[:len(x.Outs)+2])}
	tx.Check(x)
	one, _ := tx.Raw(x)
	two, _ := tx.Raw(x)
	tx.Name(x)
	tx.Tag(x, hashOf(1))
	tx.Sum(x)
	tx.Same(x, x)
	for i := range x.Ins {
		tx.Spend(x, i, x.Outs[0], 0, 1)
		collect(tx.Spends(x, x.Ins[i].Name))
	}
	after := api.Tx{Number: x.Number, Ins: x.Ins[:len(x.Ins)+2], Outs: x.Outs[:len(x.Outs)+2]}
	if !slices.Equal(after.Ins, before.Ins) || !slices.Equal(after.Outs, before.Outs) {
		t.Error("changed")
	}
	want := bytes.Clone(one)
	b := append(bytes.Clone(one), 1, 2, 3)
	first, e := tx.Parse(b[:len(one)])
	second, f := tx.Parse(b[:len(one)])
	if e != api.OK || f != api.OK || !bytes.Equal(b, append(bytes.Clone(want), 1, 2, 3)) {
		t.Error("changed bytes", e, f)
	}
	clear(b)
	clear(one)
	if !bytes.Equal(two, want) || !tx.Same(first, x) {
		t.Error("shared bytes")
	}
	clear(first.Ins)
	clear(first.Outs)
	if !tx.Same(second, x) {
		t.Error("shared lists")
	}
}
