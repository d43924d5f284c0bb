package crc_test

import (
	"bytes"
	"encoding/binary"
	"hash/crc32"
	"math"
	"slices"
	"testing"

	"tallystick/api"
	"tallystick/crc"
)

// bytesOf makes n bytes that follow no simple pattern, the same at each call.
func bytesOf(n int, seed uint32) []byte {
	b := make([]byte, n)
	for i := range b {
		seed = seed*1664525 + 1013904223
		b[i] = byte(seed >> 24)
	}
	return b
}

// words are such that lie at the edges, and some others.
var words = []uint32{0, 1, 0x80000000, math.MaxUint32, 0x82f63b78, 0x7d09c487, 0xe3069283, 0x12345678}

// lengths stand about the bounds of bytes, words and powers of two.
var lengths = []int{0, 1, 2, 3, 4, 5, 7, 8, 9, 15, 16, 17, 31, 32, 33, 63, 64, 65, 127, 128, 129, 255, 256, 257, 1000, 4096}

// plainSum is the library's sum.
func plainSum(parts ...[]byte) uint32 {
	return crc32.Checksum(bytes.Join(parts, nil), crc32.MakeTable(crc32.Castagnoli))
}

// steppedByte goes over a byte bit by bit, as the chapter's words say.
func steppedByte(w uint32, b byte) uint32 {
	w ^= uint32(b)
	for range 8 {
		low := w & 1
		w >>= 1
		if low == 1 {
			w ^= 2197175160
		}
	}
	return w
}

func steppedSum(sum uint32, b []byte) uint32 {
	w := ^sum
	for _, x := range b {
		w = steppedByte(w, x)
	}
	return ^w
}

// P3.1: Sum of what is known of old (RFC 3720 and others).
func TestSumKnown(t *testing.T) {
	rising, falling := make([]byte, 32), make([]byte, 32)
	for i := range rising {
		rising[i], falling[31-i] = byte(i), byte(i)
	}
	rows := []struct {
		b   []byte
		sum uint32
	}{
		{nil, 0},
		{[]byte{}, 0},
		{[]byte("123456789"), 0xe3069283},
		{[]byte("a"), 0xc1d04330},
		{make([]byte, 1), 0x527d5351},
		{make([]byte, 32), 0x8a9136aa},
		{bytes.Repeat([]byte{255}, 32), 0x62a8ab43},
		{rising, 0x46dd794e},
		{falling, 0x113fdb5c},
	}
	for _, x := range rows {
		if s := crc.Sum(x.b); s != x.sum {
			t.Errorf("%x: %x, not %x", x.b, s, x.sum)
		}
	}
	if crc.Sum() != 0 || crc.Sum(nil, nil) != 0 || crc.Sum([]byte{}, nil) != 0 {
		t.Error("sum of nothing")
	}
}

// P3.1: Sum against the library and against the steps.
func TestSum(t *testing.T) {
	for n := range 600 {
		b := bytesOf(n, uint32(n))
		if s := crc.Sum(b); s != plainSum(b) || s != steppedSum(0, b) {
			t.Fatalf("%d: %x", n, s)
		}
	}
	for b := range 256 {
		if one := []byte{byte(b)}; crc.Sum(one) != plainSum(one) {
			t.Error(b)
		}
	}
	if b := bytesOf(1<<20, 5); crc.Sum(b) != plainSum(b) {
		t.Error("long")
	}
}

// P3.1: More goes on, by every word.
func TestMore(t *testing.T) {
	for _, w := range words {
		if crc.More(w) != w || crc.More(w, nil) != w || crc.More(w, []byte{}, nil) != w {
			t.Errorf("%x: more of nothing", w)
		}
		for _, n := range lengths {
			b := bytesOf(n, w)
			if s := crc.More(w, b); s != steppedSum(w, b) {
				t.Errorf("%x %d: %x", w, n, s)
			}
		}
	}
}

// P3.1, P3.4: however bytes are cut, into parts of Sum, parts of More, calls of More.
func TestCuts(t *testing.T) {
	b := bytesOf(70, 9)
	want := plainSum(b)
	for i := range len(b) + 1 {
		for j := i; j <= len(b); j++ {
			x, y, z := b[:i], b[i:j], b[j:]
			if crc.Sum(x, y, z) != want || crc.More(crc.Sum(x), y, z) != want || crc.More(crc.More(crc.Sum(x), y), z) != want {
				t.Fatal(i, j)
			}
			if !bytes.Equal(crc.Seal(x, y, z), crc.Seal(b)) {
				t.Fatal("sealed", i, j)
			}
		}
	}
	if crc.Sum(b[1:], b[:1]) == want {
		t.Error("the order of parts does not count")
	}
}

// P3.1: Table.
func TestTable(t *testing.T) {
	table := crc.Table()
	for i := range table {
		if want := steppedByte(0, byte(i)); table[i] != want {
			t.Errorf("%d: %x, not %x", i, table[i], want)
		}
	}
	if table != [256]uint32(*crc32.MakeTable(crc32.Castagnoli)) {
		t.Error("not the library's")
	}
	table[1] = 0
	if crc.Table()[1] == 0 || crc.Sum([]byte("123456789")) != 0xe3069283 {
		t.Error("an answer is shared")
	}
}

// P3.2: Noughts, held against bytes of 0.
func TestNoughts(t *testing.T) {
	zeros := make([]byte, 5000)
	for _, w := range words {
		for n := range 300 {
			if s, e := crc.Noughts(w, int64(n)); s != steppedSum(w, zeros[:n]) || e != api.OK {
				t.Fatalf("%x %d: %x %d", w, n, s, e)
			}
		}
		for _, n := range lengths {
			if s, e := crc.Noughts(w, int64(n)); s != steppedSum(w, zeros[:n]) || e != api.OK {
				t.Fatalf("%x %d: %x %d", w, n, s, e)
			}
		}
	}
	if s, e := crc.Noughts(3, 1<<24); s != crc.More(3, make([]byte, 1<<24)) || e != api.OK {
		t.Errorf("%x %d", s, e)
	}
}

// P3.2: Noughts of numbers that nobody lays as bytes: two halves are the whole; behind 2^31 - 1 bits a word is what it was (the polynomial is x + 1 times one of degree 31 that is primitive), so behind as many bytes too.
func TestNoughtsMany(t *testing.T) {
	for _, w := range words {
		for _, n := range []int64{1<<31 - 1, 1 << 31, 1<<32 - 1, 1 << 32, 1<<39 + 12345, 1<<40 - 1, 1 << 40} {
			whole, e := crc.Noughts(w, n)
			half, f := crc.Noughts(w, n/2)
			both, g := crc.Noughts(half, n-n/2)
			if whole != both || e != api.OK || f != api.OK || g != api.OK {
				t.Errorf("%x %d: %x, not %x", w, n, whole, both)
			}
			less, _ := crc.Noughts(w, n%(1<<31-1))
			if whole != less {
				t.Errorf("%x %d: %x, not %x", w, n, whole, less)
			}
		}
	}
}

// P3.2: numbers that are none.
func TestNumbers(t *testing.T) {
	for _, n := range []int64{-1, -2, math.MinInt64, math.MinInt64 + 1, -(1 << 40), 1<<40 + 1, 1 << 41, math.MaxInt64} {
		if s, e := crc.Noughts(77, n); s != 0 || e != api.ErrArg {
			t.Error("noughts", n, s, e)
		}
		if s, e := crc.Patch(77, 1, 2, n); s != 0 || e != api.ErrArg {
			t.Error("patch", n, s, e)
		}
	}
	if _, e := crc.Patch(77, 1, 2, 1<<40); e != api.OK {
		t.Error(e)
	}
	if s, e := crc.Patch(77, 1, 2, 0); s != 77^1^2 || e != api.OK {
		t.Error(s, e)
	}
}

// P3.2: Patch puts another part in a part's place, wherever it lies.
func TestPatch(t *testing.T) {
	b, other := bytesOf(90, 1), bytesOf(90, 2)
	for i := range len(b) + 1 {
		for j := i; j <= len(b); j++ {
			patched := slices.Concat(b[:i], other[i:j], b[j:])
			s, e := crc.Patch(plainSum(b), plainSum(b[i:j]), plainSum(other[i:j]), int64(len(b)-j))
			if s != plainSum(patched) || e != api.OK {
				t.Fatalf("%d %d: %x %d", i, j, s, e)
			}
		}
	}
}

// P3.2: Patch with very many bytes behind, which are of 0 here.
func TestPatchFar(t *testing.T) {
	was, is := []byte("what was"), []byte("what is.")
	for _, n := range []int64{1 << 20, 1<<32 - 1, 1 << 40} {
		ahead, _ := crc.Noughts(crc.Sum(was), n)
		behind, _ := crc.Noughts(crc.Sum(is), n)
		if s, e := crc.Patch(ahead, crc.Sum(was), crc.Sum(is), n); s != behind || e != api.OK {
			t.Errorf("%d: %x %d, not %x", n, s, e, behind)
		}
	}
}

// P3.3: Seal puts the sum behind, its lowest byte ahead.
func TestSeal(t *testing.T) {
	if s := crc.Seal([]byte("1234"), []byte("56789")); !bytes.Equal(s, []byte("123456789\x83\x92\x06\xe3")) {
		t.Errorf("%x", s)
	}
	for _, s := range [][]byte{crc.Seal(), crc.Seal(nil), crc.Seal([]byte{}, nil)} {
		if !bytes.Equal(s, make([]byte, 4)) {
			t.Errorf("%x", s)
		}
	}
	for _, n := range lengths {
		b := bytesOf(n, 6)
		if s := crc.Seal(b); !bytes.Equal(s, binary.LittleEndian.AppendUint32(slices.Clone(b), plainSum(b))) {
			t.Errorf("%d: %x", n, s)
		}
	}
}

// P3.3: Open tells the bytes of sealed ones.
func TestOpen(t *testing.T) {
	for _, n := range lengths {
		b := bytesOf(n, 7)
		if is, e := crc.Open(crc.Seal(b)); !bytes.Equal(is, b) || e != api.OK {
			t.Errorf("%d: %x %d", n, is, e)
		}
		if is, e := crc.Open(crc.Seal(crc.Seal(b))); !bytes.Equal(is, crc.Seal(b)) || e != api.OK {
			t.Errorf("twice %d: %x %d", n, is, e)
		}
	}
	if b, e := crc.Open(make([]byte, 4)); len(b) != 0 || e != api.OK {
		t.Error(b, e)
	}
}

// P3.3: bytes that are not sealed.
func TestOpenWrong(t *testing.T) {
	sealed := crc.Seal([]byte("hello"))
	rows := [][]byte{nil, {}, {0}, {0, 0}, {0, 0, 0}, {0, 0, 0, 1}, {1, 0, 0, 0}, make([]byte, 5), []byte("abc"), []byte("hello"),
		sealed[1:], sealed[:len(sealed)-1], append(slices.Clone(sealed), 0), append([]byte{0}, sealed...),
		binary.BigEndian.AppendUint32([]byte("hello"), plainSum([]byte("hello"))),
		binary.LittleEndian.AppendUint32([]byte("hello"), ^plainSum([]byte("hello"))),
		append(slices.Clone(sealed[5:]), "hello"...),
		append(slices.Clone(sealed), sealed[5:]...),
		bytesOf(4096, 3)}
	for _, b := range rows {
		if is, e := crc.Open(b); is != nil || e != api.ErrSum {
			t.Errorf("%x: %x %d", b, is, e)
		}
	}
}

// P3.4: whatever is turned within 32 bits that follow one another, sealed bytes are not opened, and sums are unlike.
func TestBursts(t *testing.T) {
	plain := bytesOf(20, 4)
	sealed, sum := crc.Seal(plain), crc.Sum(plain)
	turned := func(b []byte, first int, bits uint32) []byte {
		out := slices.Clone(b)
		for i := range 32 {
			if place := first + i; bits>>i&1 == 1 {
				out[place/8] ^= 1 << (place % 8)
			}
		}
		return out
	}
	seed := uint32(1)
	for first := range 8*len(sealed) - 31 {
		patterns := append([]uint32{0x82f63b78, 0x05ec76f1, 0x1edc6f41}, words[1:]...)
		for range 200 {
			seed = seed*1664525 + 1013904223
			patterns = append(patterns, seed|1)
		}
		for _, bits := range patterns {
			if is, e := crc.Open(turned(sealed, first, bits)); is != nil || e != api.ErrSum {
				t.Fatalf("opened: %d %x", first, bits)
			}
			if first+32 <= 8*len(plain) && crc.Sum(turned(plain, first, bits)) == sum {
				t.Fatalf("same sum: %d %x", first, bits)
			}
		}
	}
}

// P3.4: one bit, and each two bits that lie near, also at the ends.
func TestBits(t *testing.T) {
	sealed := crc.Seal(bytesOf(16, 8))
	flip := func(b []byte, place int) { b[place/8] ^= 1 << (place % 8) }
	for i := range 8 * len(sealed) {
		for j := i; j < min(i+32, 8*len(sealed)); j++ {
			b := slices.Clone(sealed)
			flip(b, i)
			if j > i {
				flip(b, j)
			}
			if is, e := crc.Open(b); is != nil || e != api.ErrSum {
				t.Fatal(i, j)
			}
		}
	}
}

// What is handed in is not changed, spare room included, and no answer shares memory with it or with another.
func TestApart(t *testing.T) {
	room := bytesOf(64, 2)
	was := slices.Clone(room)
	a, b := room[:10], room[20:30]
	parts := [][]byte{a, b, nil, {}}[:2]
	crc.Sum(parts...)
	crc.More(5, parts...)
	sealed := crc.Seal(parts...)
	one := crc.Seal(a)
	if !bytes.Equal(room, was) || &parts[0][0] != &room[0] || parts[:4][2] != nil || len(parts[:4][3]) != 0 {
		t.Fatal("an argument is changed")
	}
	clear(one)
	clear(sealed[:10])
	if !bytes.Equal(room, was) {
		t.Fatal("an answer is shared with an argument")
	}
	sealed = append(crc.Seal(a), room...)[:14]
	kept := slices.Clone(sealed[:cap(sealed)])
	x, _ := crc.Open(sealed)
	y, _ := crc.Open(sealed)
	clear(x[:cap(x)])
	if !bytes.Equal(sealed[:cap(sealed)], kept) || !bytes.Equal(y, a) {
		t.Error("an opened answer is shared")
	}
	if z := append(y, 1, 2, 3, 4); !bytes.Equal(z[:10], a) || !bytes.Equal(sealed, kept[:14]) {
		t.Error("room behind an answer")
	}
}

func BenchmarkSum(b *testing.B) {
	for _, n := range []int{16, 512, 4096} {
		part := bytesOf(n, 1)
		b.Run(string(rune('a'+n/512)), func(b *testing.B) {
			b.ReportAllocs()
			for b.Loop() {
				crc.Sum(part)
			}
		})
	}
}
