package secrets

import (
	"iter"
	"math/bits"

	"tallystick/api"
	"tallystick/sha"
	"tallystick/wire"
)

const (
	// indexBits are as many bits as an index has, and as many noughts as the index 0 ends with.
	indexBits = 31
	// maxPlaces: one for each number of noughts.
	maxPlaces = indexBits + 1
	// maxCount is how many secrets there are.
	maxCount = 1 << indexBits
)

// place is where the last secret is kept whose index ends with so many noughts as the place's number.
type place struct {
	index  int64
	secret api.Hash
}

// count is how many secrets were put, which is the next number, too.
type count struct{ many int64 }

// filled is from how many places something is kept: the first secret of the place k is the one of the number 2^k - 1, so these are the lowest places.
func (c count) filled() int { return bits.Len64(uint64(c.many)) }

// last tells places' indexes by the count alone. An index is 2^31 less as many as were put with it, and both end with as many noughts: so what a place has was put as the greatest odd multiple of 2^at that is not above the count.
func (c count) last() func(at int) int64 {
	return func(at int) int64 {
		odd := (c.many>>at - 1) | 1
		return maxCount - odd<<at
	}
}

// kept goes over the places from which something is kept, rising.
func (k *Keep) kept() iter.Seq2[int, place] {
	return func(yield func(int, place) bool) {
		for at := range k.filled() {
			if !yield(at, k.places[at]) {
				return
			}
		}
	}
}

// mustFit gives up where what is kept below a place was put ahead of what the place has, and does not come of it.
func (k *Keep) mustFit(own int, has place) {
places:
	for at, below := range k.kept() {
		switch {
		case at >= own:
			break places
		case has.index < below.index && down(has.secret, own, below.index) != below.secret:
			panic(api.ErrFalse)
		}
	}
}

// read takes a keep off its bytes, into a new one; it gives up where they are none.
func (k *Keep) read(r *wire.Reader) {
	// What lacks need not be asked for at once: the reader refuses the end, too, from then on.
	k.many, _ = r.Number(maxCount)
	index := k.last()
	for at := range k.filled() {
		k.places[at].index = index(at)
		k.places[at].secret, _ = r.Hash()
	}
	if e := r.End(); e != api.OK {
		panic(e)
	}
	for at, p := range k.kept() {
		k.mustFit(at, p)
	}
}

// tried lets something be asked, and tells by which error it gave up.
func tried(ask func()) (e api.Errno) {
	// No call panics: what gives up by something else has not told that it fits.
	e = api.ErrFalse
	defer func() {
		if no, gaveUp := recover().(api.Errno); gaveUp {
			e = no
		}
	}()
	ask()
	return api.OK
}

// down goes from a base down to an index, over its lowest bits.
func down(base api.Hash, over int, index int64) api.Hash {
	return flipped(base, ones(over, index)...)
}

// ones are those of an index's lowest bits that are 1, from the highest one down.
func ones(over int, index int64) []int {
	var l []int
	for i := range over {
		b := over - 1 - i
		if index>>b&1 == 1 {
			l = append(l, b)
		}
	}
	return l
}

// flipped turns bits, one by one, and hashes behind each.
func flipped(h api.Hash, flips ...int) api.Hash {
	for _, b := range flips {
		h[b/8] ^= 1 << (b % 8)
		h = sha.Sum(h[:])
	}
	return h
}

// noughts is how many noughts an index ends with. The bit above all of an index's stands for the index 0.
func noughts(index int64) int { return bits.TrailingZeros64(uint64(index | maxCount)) }

// across is a number's index, and an index's number.
func across(n int64) int64 { return api.MaxNumber - n }

// outside asks whether a number is below 0, or above the most that may be.
func outside[N int | int64](n, most N) bool { return n < 0 || n > most }
