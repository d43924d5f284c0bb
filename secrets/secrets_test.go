package secrets_test

import (
	"bytes"
	"crypto/sha256"
	"encoding/binary"
	"encoding/hex"
	"fmt"
	"iter"
	"math"
	"math/bits"
	"math/rand"
	"slices"
	"testing"

	"tallystick/api"
	"tallystick/secrets"
)

// maxCount is how many secrets there are: the numbers 0 to 2^31 - 1.
const maxCount = 1 << 31

// noNumbers are below and above all numbers.
var noNumbers = []int64{-1, -2, math.MinInt32, math.MinInt64, math.MinInt64 + 1, maxCount, maxCount + 1, 1<<32 - 1, 1 << 32, 1 << 62, math.MaxInt64 - 1, math.MaxInt64}

// someNumbers are numbers at both bounds, at those of each bit, and between.
func someNumbers() []int64 {
	l := []int64{0, api.MaxNumber, 0x55555555, 0x2aaaaaaa, 123456789, 1000000007}
	for b := range 31 {
		for near := int64(-1); near <= 1; near++ {
			l = append(l, int64(1)<<b+near, api.MaxNumber-int64(1)<<b+near)
		}
	}
	l = slices.DeleteFunc(l, func(n int64) bool { return n < 0 || n > api.MaxNumber })
	slices.Sort(l)
	return slices.Compact(l)
}

// someCounts are how many may be put: all small ones, and those at the bounds of each bit.
func someCounts() []int64 {
	l := []int64{maxCount, maxCount - 1, maxCount - 2, 1000000007, 0x55555555, 0x2aaaaaaa}
	for n := range int64(70) {
		l = append(l, n)
	}
	for b := 6; b < 31; b++ {
		l = append(l, 1<<b-2, 1<<b-1, 1<<b, 1<<b+1, 1<<b+1<<(b/2))
	}
	slices.Sort(l)
	return slices.Compact(l)
}

func hashOf(seed int64) api.Hash {
	var b [8]byte
	binary.BigEndian.PutUint64(b[:], uint64(seed))
	return sha256.Sum256(b[:])
}

// plainDown does what the chapter says by the library, over a text of the index's bits.
func plainDown(base api.Hash, over int, index int64) api.Hash {
	text := fmt.Sprintf("%031b", index)
	for b := over - 1; b >= 0; b-- {
		if text[30-b] == '1' {
			base[b/8] ^= []byte{1, 2, 4, 8, 16, 32, 64, 128}[b%8]
			base = sha256.Sum256(base[:])
		}
	}
	return base
}

func plainSecret(seed api.Hash, n int64) api.Hash { return plainDown(seed, 31, api.MaxNumber-n) }

func plainNoughts(index int64) int {
	for k := range 31 {
		if index%2 == 1 {
			return k
		}
		index /= 2
	}
	return 31
}

func plainNumber(n int64) []byte {
	switch {
	case n < 253:
		return []byte{byte(n)}
	case n < 1<<16:
		return binary.BigEndian.AppendUint16([]byte{253}, uint16(n))
	case n < 1<<32:
		return binary.BigEndian.AppendUint32([]byte{254}, uint32(n))
	}
	return binary.BigEndian.AppendUint64([]byte{255}, uint64(n))
}

// plainPlaces tells, of each place that has something, the number last put there: it seeks each from the last number down.
func plainPlaces(many int64) []int64 {
	var l []int64
	for k := range 32 {
		step := int64(1) << k
		n := many - 1
		// An index that ends with k noughts is a multiple of the step, and so is its number and 1.
		n -= (n + 1) % step
		for n >= 0 && plainNoughts(api.MaxNumber-n) != k {
			n -= step
		}
		if n < 0 {
			break
		}
		l = append(l, n)
	}
	return l
}

func rawOf(many int64, kept ...api.Hash) []byte {
	b := plainNumber(many)
	for _, h := range kept {
		b = append(b, h[:]...)
	}
	return b
}

// rawBy are the bytes of a keep into which so many of a seed's secrets were put.
func rawBy(seed api.Hash, many int64) []byte {
	var kept []api.Hash
	for _, n := range plainPlaces(many) {
		kept = append(kept, plainSecret(seed, n))
	}
	return rawOf(many, kept...)
}

// plainKeep is a keep as the chapter words it, with a map in the place of places.
type plainKeep struct {
	many  int64
	index map[int]int64
	kept  map[int]api.Hash
}

func newPlain() *plainKeep { return &plainKeep{0, map[int]int64{}, map[int]api.Hash{}} }

func (p *plainKeep) put(n int64, secret api.Hash) api.Errno {
	if n < 0 || n > api.MaxNumber {
		return api.ErrArg
	}
	if n != p.many {
		return api.ErrNext
	}
	index := api.MaxNumber - n
	own := plainNoughts(index)
	for k := range own {
		if h, is := p.kept[k]; is && plainDown(secret, own, p.index[k]) != h {
			return api.ErrFalse
		}
	}
	p.index[own], p.kept[own] = index, secret
	p.many++
	return api.OK
}

func (p *plainKeep) get(n int64) (api.Hash, api.Errno) {
	if n < 0 || n > api.MaxNumber {
		return api.Hash{}, api.ErrArg
	}
	index := api.MaxNumber - n
	for k := range 32 {
		at, is := p.index[k]
		if is && n < p.many && index-index%(1<<k) == at {
			return plainDown(p.kept[k], k, index), api.OK
		}
	}
	return api.Hash{}, api.ErrNone
}

func (p *plainKeep) raw() []byte {
	var l []api.Hash
	for k := range 32 {
		if h, is := p.kept[k]; is {
			l = append(l, h)
		}
	}
	return rawOf(p.many, l...)
}

// isKeep asks by the chapter's words alone whether these are a keep's bytes.
func isKeep(many int64, kept []api.Hash) bool {
	numbers := plainPlaces(many)
	if len(numbers) != len(kept) {
		return false
	}
	for high := range kept {
		for low := range high {
			if numbers[high] > numbers[low] && plainDown(kept[high], high, api.MaxNumber-numbers[low]) != kept[low] {
				return false
			}
		}
	}
	return true
}

func read(t *testing.T, b []byte) *secrets.Keep {
	t.Helper()
	k, e := secrets.Read(b)
	if e != api.OK || k == nil {
		t.Fatalf("%x: %d", b, e)
	}
	return k
}

// filled is a keep into which so many of a seed's secrets were put.
func filled(t *testing.T, seed api.Hash, many int64) *secrets.Keep {
	t.Helper()
	k := secrets.New()
	for n := range many {
		if e := k.Put(n, plainSecret(seed, n)); e != api.OK {
			t.Fatal(n, e)
		}
	}
	return k
}

type kept struct {
	n      int64
	secret api.Hash
}

func list(all iter.Seq2[int64, api.Hash]) []kept {
	var l []kept
	for n, h := range all {
		l = append(l, kept{n, h})
	}
	return l
}

// none are keeps that no call made.
func none() []*secrets.Keep { return []*secrets.Keep{nil, {}, new(secrets.Keep)} }

// P6.1: the chapter's row.
func TestSecretExamples(t *testing.T) {
	for i := range int64(20) {
		if h, e := secrets.Secret(hashOf(i), api.MaxNumber); h != hashOf(i) || e != api.OK {
			t.Error("Secret", i, e)
		}
		if h, e := secrets.Down(hashOf(i), 5, 0); h != hashOf(i) || e != api.OK {
			t.Error("Down", i, e)
		}
		if h, e := secrets.Down(hashOf(i), 32, 0); h != (api.Hash{}) || e != api.ErrArg {
			t.Error("Down of 32", i, e)
		}
	}
}

// P6.1: one that is known: of a seed of ones, the lowest bit turned.
func TestSecretKnown(t *testing.T) {
	seed := api.Hash(bytes.Repeat([]byte{1}, 32))
	h, e := secrets.Secret(seed, api.MaxNumber-1)
	if hex.EncodeToString(h[:]) != "915c75942a26bb3a433a8ce2cb0427c29ec6c1775cfc78328b57f6ba7bfeaa9c" || e != api.OK {
		t.Errorf("%x %d", h, e)
	}
}

// P6.1: Secret of numbers at all bounds, by the library.
func TestSecret(t *testing.T) {
	for i, n := range someNumbers() {
		seed := hashOf(int64(i % 3))
		if h, e := secrets.Secret(seed, n); h != plainSecret(seed, n) || e != api.OK {
			t.Error(n, e)
		}
	}
	for n := range int64(300) {
		if h, e := secrets.Secret(api.Hash{}, n); h != plainSecret(api.Hash{}, n) || e != api.OK {
			t.Error(n, e)
		}
	}
	for _, n := range noNumbers {
		if h, e := secrets.Secret(hashOf(1), n); h != (api.Hash{}) || e != api.ErrArg {
			t.Error(n, e)
		}
	}
}

// P6.1: Point is the hash under its name.
func TestPoint(t *testing.T) {
	head := sha256.Sum256([]byte("point"))
	for i := range int64(50) {
		secret := hashOf(i)
		if i == 0 {
			secret = api.Hash{}
		}
		want := sha256.Sum256(slices.Concat(head[:], head[:], secret[:]))
		if secrets.Point(secret) != want {
			t.Error(i)
		}
	}
}

// P6.1: Down over each number of bits; an index's bits above them do not count.
func TestDown(t *testing.T) {
	base := hashOf(7)
	for over := range 32 {
		for _, index := range someNumbers() {
			want := plainDown(base, over, index)
			if h, e := secrets.Down(base, over, index); h != want || e != api.OK {
				t.Error(over, index, e)
			}
			if h, e := secrets.Down(base, over, index%(1<<over)); h != want || e != api.OK {
				t.Error("lowest bits", over, index, e)
			}
		}
	}
}

// P6.1: each bit is turned where the chapter says, and that is hashed.
func TestDownOneBit(t *testing.T) {
	for b := range 31 {
		turned := hashOf(9)
		turned[b/8] ^= 1 << (b % 8)
		h, e := secrets.Down(hashOf(9), b+1, 1<<b)
		if h != sha256.Sum256(turned[:]) || e != api.OK {
			t.Error(b, e)
		}
		if h, e := secrets.Down(hashOf(9), b, 1<<b); h != hashOf(9) || e != api.OK {
			t.Error("one bit less", b, e)
		}
	}
}

// P6.1: what may not be, at each bound, and both at once.
func TestDownWrong(t *testing.T) {
	noBits := []int{-1, -2, 32, 33, 64, math.MinInt, math.MinInt32, math.MaxInt32, math.MaxInt}
	wrong := func(over int, index int64) {
		t.Helper()
		if h, e := secrets.Down(hashOf(1), over, index); h != (api.Hash{}) || e != api.ErrArg {
			t.Error(over, index, e)
		}
	}
	for _, over := range noBits {
		for _, index := range []int64{0, 1, api.MaxNumber} {
			wrong(over, index)
		}
		for _, index := range noNumbers {
			wrong(over, index)
		}
	}
	for over := range 32 {
		for _, index := range noNumbers {
			wrong(over, index)
		}
	}
}

// P6.1: going down in two strides is going down in one.
func TestDownTwice(t *testing.T) {
	rng := rand.New(rand.NewSource(1))
	for range 2000 {
		index, cut := rng.Int63n(maxCount), rng.Intn(32)
		high, _ := secrets.Down(hashOf(3), 31, index>>cut<<cut)
		low, e := secrets.Down(high, cut, index)
		if want, _ := secrets.Secret(hashOf(3), api.MaxNumber-index); low != want || e != api.OK {
			t.Fatal(index, cut, e)
		}
	}
}

// P6.2: the chapter's row.
func TestKeepExamples(t *testing.T) {
	k, x := secrets.New(), hashOf(5)
	if h, e := k.Get(0); h != (api.Hash{}) || e != api.ErrNone {
		t.Error(e)
	}
	if e := k.Put(1, hashOf(6)); e != api.ErrNext {
		t.Error(e)
	}
	if e := k.Put(0, x); e != api.OK {
		t.Error(e)
	}
	if h, e := k.Get(0); h != x || e != api.OK {
		t.Error(e)
	}
	if k.Next() != 1 {
		t.Error(k.Next())
	}
}

// P6.2: a new keep has nothing; New makes another one each time.
func TestNew(t *testing.T) {
	k, other := secrets.New(), secrets.New()
	if k == nil || other == nil || k == other || k.Next() != 0 || len(list(k.All())) != 0 {
		t.Fatal("a new keep")
	}
	k.Put(0, hashOf(1))
	if other.Next() != 0 || len(list(other.All())) != 0 || k.Next() != 1 {
		t.Error("keeps are not apart")
	}
}

// P6.2, P6.4: of a seed's secrets each fits, and each that was put is told, behind each of them; those behind are not there.
func TestPutGet(t *testing.T) {
	seed := hashOf(11)
	k := secrets.New()
	var all []api.Hash
	for many := range int64(300) {
		for n := range many {
			if h, e := k.Get(n); h != all[n] || e != api.OK {
				t.Fatal(many, n, e)
			}
		}
		for _, n := range []int64{many, many + 1, 2 * many, api.MaxNumber} {
			if h, e := k.Get(n); n >= many && (h != (api.Hash{}) || e != api.ErrNone) {
				t.Fatal(many, n, e)
			}
		}
		all = append(all, plainSecret(seed, many))
		if e := k.Put(many, all[many]); e != api.OK || k.Next() != many+1 {
			t.Fatal(many, e, k.Next())
		}
	}
}

// P6.2, P6.4: a keep of many is asked for each number.
func TestPutGetMany(t *testing.T) {
	const many = 20000
	k := filled(t, hashOf(12), many)
	for n := range int64(many) {
		if h, e := k.Get(n); h != plainSecret(hashOf(12), n) || e != api.OK {
			t.Fatal(n, e)
		}
	}
	if h, e := k.Get(many); h != (api.Hash{}) || e != api.ErrNone {
		t.Error(e)
	}
}

// P6.2: the errors, in their order, and what refuses changes nothing.
func TestPutErrors(t *testing.T) {
	for _, k := range none() {
		for _, n := range append([]int64{0, 1, api.MaxNumber}, noNumbers...) {
			if e := k.Put(n, hashOf(1)); e != api.ErrNil || k.Next() != 0 {
				t.Error("none", n, e)
			}
		}
	}
	seed := hashOf(13)
	for _, many := range []int64{0, 1, 2, 3, 7, 8, 31, 64} {
		k := filled(t, seed, many)
		ahead := k.Raw()
		for _, n := range noNumbers {
			if e := k.Put(n, hashOf(2)); e != api.ErrArg {
				t.Error("no number", many, n, e)
			}
		}
		for _, n := range []int64{many - 2, many - 1, many + 1, many + 2, 2*many + 1, api.MaxNumber} {
			for _, secret := range []api.Hash{hashOf(2), plainSecret(seed, max(n, 0))} {
				if e := k.Put(n, secret); n >= 0 && e != api.ErrNext {
					t.Error("not the next one", many, n, e)
				}
			}
		}
		if e := k.Put(many, hashOf(2)); e != api.ErrFalse && plainNoughts(api.MaxNumber-many) > 0 {
			t.Error("false", many, e)
		} else if e == api.OK {
			continue
		}
		if k.Next() != many || !bytes.Equal(k.Raw(), ahead) {
			t.Error("changed", many)
		}
		if e := k.Put(many, plainSecret(seed, many)); e != api.OK || k.Next() != many+1 {
			t.Error("behind errors", many, e)
		}
	}
}

// P6.2: a secret of which one bit is another does not fit, where something lies below it; the right one goes then.
func TestPutTurned(t *testing.T) {
	seed := hashOf(14)
	k := secrets.New()
	for n := range int64(70) {
		right := plainSecret(seed, n)
		if n%2 == 1 {
			for b := range 256 {
				turned := right
				turned[b/8] ^= 1 << (b % 8)
				if e := k.Put(n, turned); e != api.ErrFalse || k.Next() != n {
					t.Fatal(n, b, e)
				}
			}
		} else if e := k.Copy().Put(n, hashOf(n)); e != api.OK {
			t.Error("nothing lies below", n, e)
		}
		if e := k.Put(n, right); e != api.OK {
			t.Fatal(n, e)
		}
	}
}

// P6.2: a secret must fit each place below its own: of all places, up to the highest one, with one of those below wrong.
func TestPutEachPlace(t *testing.T) {
	for own := range 32 {
		n := int64(1)<<own - 1
		secret := hashOf(int64(own))
		var below []api.Hash
		for _, m := range plainPlaces(n) {
			below = append(below, plainDown(secret, own, api.MaxNumber-m))
		}
		if len(below) != own {
			t.Fatal(own, len(below))
		}
		for wrong := range own {
			l := slices.Clone(below)
			l[wrong][wrong] ^= 1
			k := read(t, rawOf(n, l...))
			if e := k.Put(n, secret); e != api.ErrFalse || k.Next() != n || !bytes.Equal(k.Raw(), rawOf(n, l...)) {
				t.Error(own, wrong, e)
			}
		}
		k := read(t, rawOf(n, below...))
		if e := k.Put(n, secret); e != api.OK || k.Next() != n+1 || !bytes.Equal(k.Raw(), rawOf(n+1, append(below, secret)...)) {
			t.Error(own, e)
		}
		for _, m := range append(someNumbers(), n, n/2, n/3) {
			h, e := k.Get(m)
			if m <= n && (h != plainDown(secret, own, api.MaxNumber-m) || e != api.OK) || m > n && (h != (api.Hash{}) || e != api.ErrNone) {
				t.Error("Get", own, m, e)
			}
		}
	}
}

// P6.2: behind the last number none is the next one.
func TestPutLast(t *testing.T) {
	seed := hashOf(15)
	k := read(t, rawBy(seed, maxCount-1))
	if k.Next() != api.MaxNumber {
		t.Fatal(k.Next())
	}
	if h, e := k.Get(api.MaxNumber); h != (api.Hash{}) || e != api.ErrNone {
		t.Error(e)
	}
	if e := k.Put(api.MaxNumber, hashOf(1)); e != api.ErrFalse {
		t.Error(e)
	}
	if e := k.Put(maxCount, seed); e != api.ErrArg {
		t.Error(e)
	}
	if e := k.Put(api.MaxNumber, seed); e != api.OK || k.Next() != maxCount {
		t.Fatal(e, k.Next())
	}
	if e := k.Put(api.MaxNumber, seed); e != api.ErrNext {
		t.Error(e)
	}
	if e := k.Put(maxCount, seed); e != api.ErrArg {
		t.Error(e)
	}
	if h, e := k.Get(maxCount); h != (api.Hash{}) || e != api.ErrArg {
		t.Error(e)
	}
	if len(list(k.All())) != 32 || !bytes.Equal(k.Raw(), rawBy(seed, maxCount)) {
		t.Error("32 are kept")
	}
	for _, n := range someNumbers() {
		if h, e := k.Get(n); h != plainSecret(seed, n) || e != api.OK {
			t.Error(n, e)
		}
	}
}

// P6.2: Get's errors.
func TestGetErrors(t *testing.T) {
	full := filled(t, hashOf(16), 37)
	for _, n := range noNumbers {
		for _, k := range []*secrets.Keep{secrets.New(), full} {
			if h, e := k.Get(n); h != (api.Hash{}) || e != api.ErrArg {
				t.Error(n, e)
			}
		}
		for _, k := range none() {
			if h, e := k.Get(n); h != (api.Hash{}) || e != api.ErrNil {
				t.Error("none", n, e)
			}
		}
	}
	for _, k := range none() {
		if h, e := k.Get(0); h != (api.Hash{}) || e != api.ErrNil {
			t.Error("none", e)
		}
	}
	for _, n := range []int64{37, 38, 64, api.MaxNumber} {
		if h, e := full.Get(n); h != (api.Hash{}) || e != api.ErrNone {
			t.Error(n, e)
		}
	}
}

// P6.2: All tells place by place the last one that was put there, with its number.
func TestAll(t *testing.T) {
	seed := hashOf(17)
	k := secrets.New()
	for many := range int64(300) {
		var want []kept
		for _, n := range plainPlaces(many) {
			want = append(want, kept{n, plainSecret(seed, n)})
		}
		if l := list(k.All()); !slices.Equal(l, want) || len(l) != bits.Len64(uint64(many)) {
			t.Fatal(many, l)
		}
		k.Put(many, plainSecret(seed, many))
	}
	for _, none := range none() {
		if all := none.All(); all == nil || len(list(all)) != 0 {
			t.Error("none")
		}
	}
}

// P6.2: it is left at any time, and gone over again; what is put meanwhile is told by the next All.
func TestAllAgain(t *testing.T) {
	seed := hashOf(18)
	k := filled(t, seed, 45)
	all := k.All()
	whole := list(all)
	for stop := range whole {
		var l []kept
		for n, h := range all {
			l = append(l, kept{n, h})
			if len(l) > stop {
				break
			}
		}
		if !slices.Equal(l, whole[:stop+1]) || !slices.Equal(list(all), whole) {
			t.Error(stop)
		}
	}
	var l []kept
	for n, h := range all {
		for m, x := range all {
			l = append(l, kept{m, x})
			break
		}
		l = append(l, kept{n, h})
		k.Put(k.Next(), plainSecret(seed, k.Next()))
	}
	if len(l) != 2*len(whole) || k.Next() != 45+int64(len(whole)) {
		t.Error(len(l), k.Next())
	}
	for i, x := range whole {
		if l[2*i] != whole[0] || l[2*i+1] != x {
			t.Error("within itself", i)
		}
	}
	if !slices.Equal(list(all), whole) || slices.Equal(list(k.All()), whole) {
		t.Error("behind Put")
	}
}

// P6.2: a panic of who goes over it passes, and the keep is as it was.
func TestAllPanic(t *testing.T) {
	k := filled(t, hashOf(18), 9)
	func() {
		defer func() {
			if recover() != "mine" {
				t.Error("another panic")
			}
		}()
		for range k.All() {
			panic("mine")
		}
	}()
	if len(list(k.All())) != 4 || k.Put(9, plainSecret(hashOf(18), 9)) != api.OK {
		t.Error("changed")
	}
}

// P6.3: Raw's bytes, by the count's form, too.
func TestRaw(t *testing.T) {
	seed := hashOf(19)
	k := secrets.New()
	for many := range int64(600) {
		if !bytes.Equal(k.Raw(), rawBy(seed, many)) {
			t.Fatalf("%d %x", many, k.Raw())
		}
		k.Put(many, plainSecret(seed, many))
	}
	for _, none := range none() {
		if len(none.Raw()) != 0 {
			t.Error("none")
		}
	}
	b := k.Raw()
	b[5]++
	if !bytes.Equal(k.Raw(), rawBy(seed, 600)) {
		t.Error("Raw shares memory")
	}
}

// P6.3: the chapter's row.
func TestReadExamples(t *testing.T) {
	k, e := secrets.Read([]byte{0})
	if e != api.OK || k == nil || !secrets.Same(k, secrets.New()) || k.Put(0, hashOf(1)) != api.OK {
		t.Error(e)
	}
	for _, b := range [][]byte{nil, {}, {1}} {
		if k, e := secrets.Read(b); k != nil || e != api.ErrKeep {
			t.Errorf("%x: %d", b, e)
		}
	}
}

// P6.3, P6.4: what is read is the keep, at counts up to the greatest one; its bytes are those.
func TestReadRaw(t *testing.T) {
	seed := hashOf(20)
	for _, many := range someCounts() {
		b := rawBy(seed, many)
		k := read(t, b)
		if k.Next() != many || !bytes.Equal(k.Raw(), b) || len(list(k.All())) != bits.Len64(uint64(many)) {
			t.Error(many, k.Next())
		}
		for _, n := range append(someNumbers(), many-2, many-1, many, many+1, many/2) {
			h, e := k.Get(n)
			switch {
			case n < 0 || n > api.MaxNumber:
				if h != (api.Hash{}) || e != api.ErrArg {
					t.Error(many, n, e)
				}
			case n >= many:
				if h != (api.Hash{}) || e != api.ErrNone {
					t.Error(many, n, e)
				}
			case h != plainSecret(seed, n) || e != api.OK:
				t.Error(many, n, e)
			}
		}
		for n := many; n < min(many+5, maxCount); n++ {
			if e := k.Put(n, plainSecret(seed, n)); e != api.OK || !bytes.Equal(k.Raw(), rawBy(seed, n+1)) {
				t.Error("goes on", many, n, e)
			}
		}
	}
}

// P6.3: a keep that was put and one that was read are the same.
func TestReadPut(t *testing.T) {
	k := secrets.New()
	for n := range int64(200) {
		back := read(t, k.Raw())
		if !secrets.Same(k, back) || !slices.Equal(list(k.All()), list(back.All())) {
			t.Error(n)
		}
		k.Put(n, plainSecret(hashOf(21), n))
	}
}

// P6.3: bytes that are cut, and longer ones.
func TestReadCut(t *testing.T) {
	for _, many := range []int64{0, 1, 2, 3, 5, 252, 253, 300, 65535, 65536, maxCount - 1, maxCount} {
		b := rawBy(hashOf(22), many)
		for n := range b {
			if k, e := secrets.Read(b[:n:n]); k != nil || e != api.ErrKeep {
				t.Fatal("cut", many, n, e)
			}
		}
		for _, more := range [][]byte{{0}, {1}, make([]byte, 32), bytes.Repeat([]byte{7}, 64)} {
			if k, e := secrets.Read(slices.Concat(b, more)); k != nil || e != api.ErrKeep {
				t.Error("longer", many, len(more), e)
			}
		}
	}
}

// P6.3: counts of other forms, and above the greatest one; as many hashes as there could be lie behind.
func TestReadCounts(t *testing.T) {
	for _, text := range []string{"fd0000", "fe00000000", "ff0000000000000000", "fd0001", "fd00fc", "fe000000fd", "fe0000ffff", "ff0000000000000001", "ff0000000080000000", "fe80000001", "feffffffff", "ff0000000100000000", "ff4000000000000000", "ff4000000000000001", "ffffffffffffffffff", "fd", "fe80", "ff"} {
		head, err := hex.DecodeString(text)
		if err != nil {
			t.Fatal(err)
		}
		for hashes := range 66 {
			if k, e := secrets.Read(append(slices.Clone(head), make([]byte, 32*hashes)...)); k != nil || e != api.ErrKeep {
				t.Error(text, hashes, e)
			}
		}
	}
}

// P6.3: a count above the greatest one is refused, also where what lies behind is a whole keep's.
func TestReadCountsAbove(t *testing.T) {
	seed := hashOf(22)
	hashes := rawBy(seed, maxCount)[len(plainNumber(maxCount)):]
	if k, e := secrets.Read(slices.Concat(plainNumber(maxCount), hashes)); k == nil || e != api.OK {
		t.Fatal(e)
	}
	for _, many := range []int64{maxCount + 1, maxCount + 2, maxCount + 3, maxCount + maxCount/2, 1<<32 - 1, 1 << 32, 1<<32 + 1, 1 << 33, 1 << 40, 1 << 62} {
		for _, behind := range [][]byte{hashes, append(slices.Clone(hashes), seed[:]...)} {
			if k, e := secrets.Read(slices.Concat(plainNumber(many), behind)); k != nil || e != api.ErrKeep {
				t.Error(many, len(behind), e)
			}
		}
	}
}

// P6.3: a bit that is another, in each of the hashes: refused just where the chapter says.
func TestReadTurned(t *testing.T) {
	refused, taken := 0, 0
	for _, many := range someCounts() {
		numbers := plainPlaces(many)
		for at := range numbers {
			var l []api.Hash
			for _, n := range numbers {
				l = append(l, plainSecret(hashOf(23), n))
			}
			l[at][at] ^= 16
			b := rawOf(many, l...)
			k, e := secrets.Read(b)
			if isKeep(many, l) {
				taken++
				if e != api.OK || !bytes.Equal(k.Raw(), b) {
					t.Error(many, at, e)
				}
			} else {
				refused++
				if k != nil || e != api.ErrKeep {
					t.Error(many, at, e)
				}
			}
		}
	}
	if refused < 100 || taken < 100 {
		t.Error(refused, taken)
	}
}

// P6.3: each pair of places counts by itself: of a higher one that was put later, and a lower one.
func TestReadPairs(t *testing.T) {
	for high := 1; high < 32; high++ {
		many := int64(1) << high
		for low := range high {
			l := make([]api.Hash, high+1)
			l[high] = hashOf(1)
			for at, n := range plainPlaces(many)[:high] {
				l[at] = plainDown(l[high], high, api.MaxNumber-n)
			}
			if k, e := secrets.Read(rawOf(many, l...)); k == nil || e != api.OK {
				t.Error(high, e)
			}
			l[low] = hashOf(2)
			if k, e := secrets.Read(rawOf(many, l...)); k != nil || e != api.ErrKeep {
				t.Error(high, low, e)
			}
		}
	}
}

// P6.3: what was put later in a lower place need not come of a higher one.
func TestReadLater(t *testing.T) {
	for high := range 31 {
		// All of the places' numbers fall then, from the lowest place on.
		many := int64(1)<<(high+1) - 1
		var l []api.Hash
		for at := range high + 1 {
			l = append(l, hashOf(int64(at)))
		}
		k, e := secrets.Read(rawOf(many, l...))
		if k == nil || e != api.OK {
			t.Fatal(high, e)
		}
		for at, x := range list(k.All()) {
			if x.secret != l[at] || x.n != plainPlaces(many)[at] {
				t.Error(high, at)
			}
		}
	}
}

// P6.3: anything at all is read, or refused, and what is read has just these bytes.
func TestReadAnything(t *testing.T) {
	rng := rand.New(rand.NewSource(2))
	for range 20000 {
		b := make([]byte, rng.Intn(120))
		rng.Read(b)
		if len(b) > 0 && rng.Intn(2) == 0 {
			b[0] = byte(rng.Intn(4))
			b = b[:min(len(b), 1+32*bits.Len8(b[0]))]
		}
		k, e := secrets.Read(b)
		if (e == api.OK) != (k != nil) || e != api.OK && e != api.ErrKeep || k != nil && !bytes.Equal(k.Raw(), b) {
			t.Fatalf("%x %d", b, e)
		}
	}
	if k, e := secrets.Read(make([]byte, 1<<21)); k != nil || e != api.ErrKeep {
		t.Error("long", e)
	}
}

// P6.3: the bytes that are read are neither changed nor kept.
func TestReadCopies(t *testing.T) {
	whole := append(rawBy(hashOf(24), 77), 1, 2, 3)
	b := whole[:len(whole)-3]
	k := read(t, b)
	if !bytes.Equal(whole, append(rawBy(hashOf(24), 77), 1, 2, 3)) {
		t.Error("changed")
	}
	clear(whole)
	if !bytes.Equal(k.Raw(), rawBy(hashOf(24), 77)) {
		t.Error("kept")
	}
}

// P6.3: a copy goes on apart, at all counts; none is a copy of none.
func TestCopy(t *testing.T) {
	seed := hashOf(25)
	for many := range int64(66) {
		k := filled(t, seed, many)
		other := k.Copy()
		if other == nil || other == k || !secrets.Same(k, other) || !bytes.Equal(other.Raw(), k.Raw()) {
			t.Fatal(many)
		}
		for n := many; n < many+4; n++ {
			if e := other.Put(n, plainSecret(seed, n)); e != api.OK {
				t.Error(many, n, e)
			}
		}
		if k.Next() != many || other.Next() != many+4 || !bytes.Equal(k.Raw(), rawBy(seed, many)) || !bytes.Equal(other.Raw(), rawBy(seed, many+4)) {
			t.Error("not apart", many)
		}
		if e := k.Put(many, plainSecret(seed, many)); e != api.OK || k.Next() != many+1 || other.Next() != many+4 {
			t.Error("not apart", many, e)
		}
	}
	for _, none := range none() {
		if none.Copy() != nil {
			t.Error("none")
		}
	}
}

// P6.3: Same.
func TestSame(t *testing.T) {
	seed := hashOf(26)
	a := filled(t, seed, 12)
	for many := range int64(25) {
		b := filled(t, seed, many)
		if is := many == 12; secrets.Same(a, b) != is || secrets.Same(b, a) != is || !secrets.Same(b, b) {
			t.Error(many)
		}
	}
	for _, x := range none() {
		for _, y := range none() {
			if !secrets.Same(x, y) {
				t.Error("none and none")
			}
		}
		for _, y := range []*secrets.Keep{secrets.New(), a} {
			if secrets.Same(x, y) || secrets.Same(y, x) {
				t.Error("none and one")
			}
		}
	}
	if !secrets.Same(secrets.New(), secrets.New()) {
		t.Error("new ones")
	}
	for at := range 4 {
		var l []api.Hash
		for _, n := range plainPlaces(15) {
			l = append(l, plainSecret(seed, n))
		}
		right := read(t, rawOf(15, l...))
		l[at][31] ^= 128
		if b := read(t, rawOf(15, l...)); secrets.Same(right, b) || secrets.Same(b, right) {
			t.Error("another secret", at)
		}
	}
}

// P6.3: two that came the other way to the same places are the same: what was put over does not count.
func TestSameLater(t *testing.T) {
	a, b := secrets.New(), secrets.New()
	a.Put(0, hashOf(1))
	b.Put(0, plainDown(hashOf(2), 1, 1))
	if secrets.Same(a, b) {
		t.Error("one each")
	}
	c := read(t, rawOf(2, plainDown(hashOf(2), 1, 1), hashOf(2)))
	b.Put(1, hashOf(2))
	if !secrets.Same(b, c) {
		t.Error("two each")
	}
	// The place 0 is put over, so that nothing of the first one is left but what the place 1 tells.
	b.Put(2, hashOf(3))
	c.Put(2, hashOf(3))
	if !secrets.Same(b, c) || secrets.Same(b, a) {
		t.Error("three each")
	}
}

// P6.2 to P6.4: right and wrong secrets of two seeds, put at random, held against a keep as the chapter words it.
func TestAgainstPlain(t *testing.T) {
	blocked, most := 0, int64(0)
	for life := range int64(40) {
		rng := rand.New(rand.NewSource(life))
		k, p := secrets.New(), newPlain()
		for step := range 120 {
			n := p.many
			if rng.Intn(8) == 0 {
				n += rng.Int63n(5) - 2
			}
			secret := plainSecret(hashOf(life), max(n, 0))
			// A false secret goes where nothing lies below, and blocks the odd number behind it, so there it is rare.
			kinds := 12
			if n%2 == 0 {
				kinds = 200
			}
			switch rng.Intn(kinds) {
			case 0:
				secret = hashOf(rng.Int63())
			case 1:
				secret = plainSecret(hashOf(life+1), max(n, 0))
			case 2:
				secret = plainSecret(hashOf(life), max(n-1, 0))
			}
			if e, want := k.Put(n, secret), p.put(n, secret); e != want {
				t.Fatal(life, step, n, e, want)
			}
			if k.Next() != p.many || !bytes.Equal(k.Raw(), p.raw()) {
				t.Fatal(life, step, k.Next())
			}
			for n := int64(-1); n < p.many+2; n++ {
				h, e := k.Get(n)
				if want, no := p.get(n); h != want || e != no {
					t.Fatal(life, step, n, e, no)
				}
			}
			if rng.Intn(10) == 0 {
				k = read(t, k.Raw())
			}
		}
		if p.put(p.many, plainSecret(hashOf(life), p.many)) != api.OK {
			blocked++
		}
		most = max(most, p.many)
	}
	if blocked < 5 || most < 90 {
		t.Error("too few of both", blocked, most)
	}
}

// P6.4: it keeps as many as the count has bits, whatever was put, never more than 32.
func TestFew(t *testing.T) {
	k := secrets.New()
	for many := range int64(5000) {
		l := list(k.All())
		if len(l) != bits.Len64(uint64(many)) || len(k.Raw()) != len(plainNumber(many))+32*len(l) {
			t.Fatal(many, len(l))
		}
		k.Put(many, plainSecret(hashOf(30), many))
	}
	for _, many := range someCounts() {
		if l := list(read(t, rawBy(hashOf(31), many)).All()); len(l) != bits.Len64(uint64(many)) || len(l) > 32 {
			t.Error(many, len(l))
		}
	}
}
