package crc

import "iter"

// flipped is 82f63b78: what the bit that falls out of a word xors into it.
const flipped word = 2197175160

// word is what steps go over. As a polynomial its highest bit is the one of x^0, so that a step is a product with x.
type word uint32

// run is a sum under way: the word behind the bytes so far, and the table by which it goes on.
type run struct {
	word
	table [256]uint32
}

func (r *run) take(parts ...[]byte) {
	w := r.word
	for _, part := range parts {
		for _, b := range part {
			w = w>>8 ^ word(r.table[byte(w)^b])
		}
	}
	r.word = w
}

// wordOf is the word of which the sum is told.
func wordOf(sum uint32) word { return word(^sum) }

func (w word) sum() uint32 { return uint32(^w) }

func (w word) step() word {
	// No branch here: which way the bit goes can't be foretold.
	return w>>1 ^ flipped&-(w&1)
}

// times is the product of both as polynomials, less what the steps take off.
func (w word) times(other word) word {
	var product word
	for place := range 32 {
		product ^= w & -(other >> (31 - place) & 1)
		w = w.step()
	}
	return product
}

// behindNoughts is the word behind n bytes of 0, which is its product with x^(8n).
func (w word) behindNoughts(n int64) word {
powers:
	for power := range powers() {
		if n == 0 {
			break powers
		}
		if n&1 == 1 {
			w = w.times(power)
		}
		n >>= 1
	}
	return w
}

// powers goes over what one byte of 0 does, two, four and so on. They have no end: who asks for them leaves when the number has no more bits.
func powers() iter.Seq[word] {
	return func(yield func(word) bool) {
		for power := word(1 << 23); yield(power); power = power.times(power) {
		}
	}
}
