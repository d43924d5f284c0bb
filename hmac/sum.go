package hmac

import (
	"tallystick/api"
	"tallystick/sha"
)

// block is a key's block, or what is made of it.
type block [64]byte

// blocks makes of a key what tells its block, each byte xor another one. The key is read at once, so that it may change behind that.
func blocks(key []byte) func(byte) block {
	var plain block
	if len(key) > len(plain) {
		short := sha.Sum(key)
		copy(plain[:], short[:])
	} else {
		copy(plain[:], key)
	}
	return func(other byte) block {
		turned := plain
		for i := range len(turned) {
			turned[i] ^= other
		}
		return turned
	}
}

// sum is a hash under way. It is wrapped, so that layer 1's calls are not among those of a tag.
type sum struct{ run *sha.Run }

func (s sum) take(parts ...[]byte) api.Errno {
	for _, part := range parts {
		if e := s.run.Write(part); e != api.OK {
			return e
		}
	}
	return api.OK
}

func (s sum) hash() api.Hash { return s.run.Sum() }

func (s sum) apart() sum { return sum{s.run.Copy()} }
