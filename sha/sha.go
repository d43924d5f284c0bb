// Package sha is layer 1, SHA-256 of bytes: see shared/doc/01-sha.md.
package sha

import (
	"strings"

	"tallystick/api"
)

// digits are those of a hash's text.
const digits = "0123456789abcdef"

// First: P1.1.
func First() api.State {
	return api.State{0x6a09e667, 0xbb67ae85, 0x3c6ef372, 0xa54ff53a, 0x510e527f, 0x9b05688c, 0x1f83d9ab, 0x5be0cd19}
}

// Press: P1.1.
func Press(s api.State, block [64]byte) api.State {
	var p press
	for i, b := range block {
		p.lay(i, b)
	}
	return p.into(s)
}

// Sum: P1.2.
func Sum(parts ...[]byte) api.Hash {
	r := begun()
	for _, part := range parts {
		read(&r, part)
	}
	return r.hash()
}

// Twice: P1.2.
func Twice(parts ...[]byte) api.Hash {
	h := Sum(parts...)
	return Sum(h[:])
}

// Named: P1.2.
func Named(name string, parts ...[]byte) api.Hash {
	n := begun()
	read(&n, name)
	head := n.hash()
	r := begun()
	read(&r, head[:])
	read(&r, head[:])
	for _, part := range parts {
		read(&r, part)
	}
	return r.hash()
}

// Text: P1.3.
func Text(h api.Hash) string {
	var text [2 * len(h)]byte
	for i, b := range h {
		text[2*i], text[2*i+1] = digits[b>>4], digits[b&15]
	}
	return string(text[:])
}

// Parse: P1.3.
func Parse(s string) (api.Hash, api.Errno) {
	var h api.Hash
	if len(s) != 2*len(h) {
		return api.Hash{}, api.ErrHex
	}
	for i := range len(s) {
		digit := strings.IndexByte(digits, s[i])
		if digit < 0 {
			return api.Hash{}, api.ErrHex
		}
		h[i/2] = h[i/2]<<4 | byte(digit)
	}
	return h, api.OK
}

// Run is a sum under way: its press holds the bytes of a block that is not whole yet, its state what was pressed of those ahead. A zero object is as a nil one, so it is noted which was made.
type Run struct {
	press
	state api.State
	count int64
	made  bool
}

// New: P1.4.
func New() *Run {
	r := begun()
	return &r
}

// Write: P1.4.
func (r *Run) Write(b []byte) api.Errno {
	if !r.there() {
		return api.ErrNil
	}
	read(r, b)
	return api.OK
}

// Sum: P1.4.
func (r *Run) Sum() api.Hash {
	if !r.there() {
		return api.Hash{}
	}
	ended := *r
	return ended.hash()
}

// Len: P1.4.
func (r *Run) Len() int64 {
	if !r.there() {
		return 0
	}
	return r.count
}

// Copy: P1.4.
func (r *Run) Copy() *Run {
	if !r.there() {
		return nil
	}
	other := *r
	return &other
}

func (r *Run) there() bool { return r != nil && r.made }

// hash lays what ends the sum behind its bytes, so it is asked of a sum that nobody goes on with.
func (r *Run) hash() api.Hash {
	var tail [blockSize + 8]byte
	tail[0] = 128
	n := 1 + (2*blockSize-9-r.fill())%blockSize
	length := uint64(r.count) * 8
	for i := range 8 {
		tail[n+i] = byte(length >> (56 - 8*i))
	}
	read(r, tail[:n+8])
	var h api.Hash
	for i := range h {
		h[i] = byte(r.state[i/4] >> (24 - 8*(i%4)))
	}
	return h
}

// fill is how many bytes stand in the block that is not whole yet.
func (r *Run) fill() int { return int(r.count % blockSize) }

func begun() Run { return Run{state: First(), made: true} }

// read lets a sum go on by bytes, a text's too, without a copy of them.
func read[B string | []byte](r *Run, bytes B) {
	for i := range len(bytes) {
		r.lay(r.fill(), bytes[i])
		r.count++
		if r.fill() == 0 {
			r.state = r.into(r.state)
		}
	}
}
