package sha

import (
	"iter"
	"math/bits"

	"tallystick/api"
)

// blockSize is how many bytes are pressed at once.
const blockSize = 64

// constants are K0 to K63.
var constants = [64]uint32{
	0x428a2f98, 0x71374491, 0xb5c0fbcf, 0xe9b5dba5, 0x3956c25b, 0x59f111f1, 0x923f82a4, 0xab1c5ed5,
	0xd807aa98, 0x12835b01, 0x243185be, 0x550c7dc3, 0x72be5d74, 0x80deb1fe, 0x9bdc06a7, 0xc19bf174,
	0xe49b69c1, 0xefbe4786, 0x0fc19dc6, 0x240ca1cc, 0x2de92c6f, 0x4a7484aa, 0x5cb0a9dc, 0x76f988da,
	0x983e5152, 0xa831c66d, 0xb00327c8, 0xbf597fc7, 0xc6e00bf3, 0xd5a79147, 0x06ca6351, 0x14292967,
	0x27b70a85, 0x2e1b2138, 0x4d2c6dfc, 0x53380d13, 0x650a7354, 0x766a0abb, 0x81c2c92e, 0x92722c85,
	0xa2bfe8a1, 0xa81a664b, 0xc24b8b70, 0xc76c51a3, 0xd192e819, 0xd6990624, 0xf40e3585, 0x106aa070,
	0x19a4c116, 0x1e376c08, 0x2748774c, 0x34b0bcb5, 0x391c0cb3, 0x4ed8aa4a, 0x5b9cca4f, 0x682e6ff3,
	0x748f82ee, 0x78a5636f, 0x84c87814, 0x8cc70208, 0x90befffa, 0xa4506ceb, 0xbef9a3f7, 0xc67178f2,
}

// press is a block's sixteen words, as a ring: each further word takes the place of the one sixteen ahead of it.
type press [16]uint32

// lay puts a block's byte in its place. Four bytes shift out what the word was, so the ring needs no clearing between blocks.
func (p *press) lay(at int, b byte) {
	w := &p[at/4%len(p)]
	*w = *w<<8 | uint32(b)
}

// words goes over M0, M1 and so on. The rule for them has no end: who presses leaves when the constants are used up.
func (p *press) words() iter.Seq2[int, uint32] {
	return func(yield func(int, uint32) bool) {
		near, far := shifted(10, 17, 19), shifted(3, 7, 18)
		for t := 0; ; t++ {
			w := &p[t%16]
			if t >= 16 {
				*w += near(p[(t+14)%16]) + p[(t+9)%16] + far(p[(t+1)%16])
			}
			if !yield(t, *w) {
				return
			}
		}
	}
}

// into presses a state with the block; what is left in the ring is of no use behind that.
func (p *press) into(s api.State) api.State {
	upper, lower := turned(6, 11, 25), turned(2, 13, 22)
	a, b, c, d, e, f, g, h := s[0], s[1], s[2], s[3], s[4], s[5], s[6], s[7]
rounds:
	for t, m := range p.words() {
		if t >= len(constants) {
			break rounds
		}
		x := h + upper(e) + (e&f ^ ^e&g) + constants[t] + m
		y := lower(a) + (a&b ^ a&c ^ b&c)
		a, b, c, d, e, f, g, h = x+y, a, b, c, d+x, e, f, g
	}
	return api.State{s[0] + a, s[1] + b, s[2] + c, s[3] + d, s[4] + e, s[5] + f, s[6] + g, s[7] + h}
}

// turned makes S of the chapter: the xor of a word's rotations right by the places.
func turned(places ...int) func(uint32) uint32 {
	return func(w uint32) uint32 {
		x := uint32(0)
		for _, n := range places {
			x ^= bits.RotateLeft32(w, -n)
		}
		return x
	}
}

// shifted makes R of the chapter: S, and the word shifted right by n.
func shifted(n int, places ...int) func(uint32) uint32 {
	turn := turned(places...)
	return func(w uint32) uint32 { return turn(w) ^ w>>n }
}
