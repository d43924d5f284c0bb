package sha_test

import (
	"bytes"
	"crypto/sha256"
	"math/big"
	"math/bits"
	"slices"
	"strings"
	"testing"

	"tallystick/api"
	"tallystick/sha"
)

// bytesOf makes n bytes that follow no simple pattern, the same at each call.
func bytesOf(n int, seed uint32) []byte {
	b := make([]byte, n)
	for i := range b {
		seed = seed*1664525 + 1013904223
		b[i] = byte(seed >> 24)
	}
	return b
}

func primes(n int) []int64 {
	var l []int64
	for x := int64(2); len(l) < n; x++ {
		if !slices.ContainsFunc(l, func(p int64) bool { return x%p == 0 }) {
			l = append(l, x)
		}
	}
	return l
}

// behindPoint are the first 32 bits behind the point of the root of x, by the power 2 or 3, found bit by bit.
func behindPoint(x, power int64) uint32 {
	want := new(big.Int).Lsh(big.NewInt(x), uint(32*power))
	root := new(big.Int)
	for i := 40; i >= 0; i-- {
		more := new(big.Int).SetBit(root, i, 1)
		if new(big.Int).Exp(more, big.NewInt(power), nil).Cmp(want) <= 0 {
			root = more
		}
	}
	return uint32(root.Uint64())
}

// plainPress is the chapter's press, word for word, without any of the package's means.
func plainPress(s api.State, block [64]byte) api.State {
	turn := func(w uint32, n int) uint32 { return bits.RotateLeft32(w, 32-n) }
	var m [64]uint32
	for t := range m {
		if t < 16 {
			m[t] = uint32(block[4*t])<<24 + uint32(block[4*t+1])<<16 + uint32(block[4*t+2])<<8 + uint32(block[4*t+3])
			continue
		}
		v, w := m[t-2], m[t-15]
		m[t] = (turn(v, 17) ^ turn(v, 19) ^ v>>10) + m[t-7] + (turn(w, 7) ^ turn(w, 18) ^ w>>3) + m[t-16]
	}
	at := s
	for t, p := range primes(64) {
		a, b, c, e, f, g := at[0], at[1], at[2], at[4], at[5], at[6]
		x := at[7] + (turn(e, 6) ^ turn(e, 11) ^ turn(e, 25)) + (e&f | ^e&g) + behindPoint(p, 3) + m[t]
		y := (turn(a, 2) ^ turn(a, 13) ^ turn(a, 22)) + (a&b | a&c | b&c)
		at = api.State{x + y, a, b, c, at[3] + x, e, f, g}
	}
	for i := range s {
		at[i] += s[i]
	}
	return at
}

func hashOf(s api.State) api.Hash {
	var h api.Hash
	for i, w := range s {
		h[4*i], h[4*i+1], h[4*i+2], h[4*i+3] = byte(w>>24), byte(w>>16), byte(w>>8), byte(w)
	}
	return h
}

func parsed(t *testing.T, s string) api.Hash {
	t.Helper()
	h, e := sha.Parse(s)
	if e != api.OK {
		t.Fatal(s, e)
	}
	return h
}

// P1.1: First is what the square roots say.
func TestFirst(t *testing.T) {
	s := sha.First()
	for i, p := range primes(8) {
		if w := behindPoint(p, 2); s[i] != w {
			t.Errorf("word %d: %x, not %x", i, s[i], w)
		}
	}
	s[0] = 0
	if sha.First()[0] == 0 {
		t.Error("an answer is shared")
	}
}

// P1.1: Press, of plain and of extreme states and blocks.
func TestPress(t *testing.T) {
	var noughts, ones [64]byte
	for i := range ones {
		ones[i] = 255
	}
	full := api.State{}
	for i := range full {
		full[i] = 1<<32 - 1
	}
	states := []api.State{{}, full, sha.First(), {7: 1}, {0: 1 << 31, 4: 1}}
	blocks := [][64]byte{noughts, ones, {0: 1}, {63: 1}, {3: 128, 60: 1}}
	for i := range uint32(40) {
		blocks = append(blocks, [64]byte(bytesOf(64, i)))
	}
	for _, b := range blocks {
		for _, s := range states {
			if is, want := sha.Press(s, b), plainPress(s, b); is != want {
				t.Errorf("Press(%x, %x): %x, not %x", s, b, is, want)
			}
		}
	}
	ended := [64]byte{0: 'a', 1: 'b', 2: 'c', 3: 128, 63: 24}
	if h := hashOf(sha.Press(sha.First(), ended)); sha.Text(h) != "ba7816bf8f01cfea414140de5dae2223b00361a396177a9cb410ff61f20015ad" {
		t.Error(sha.Text(h))
	}
}

// P1.2: Sum of what is known of old, of nothing in its several forms.
func TestSumKnown(t *testing.T) {
	nothing := "e3b0c44298fc1c149afbf4c8996fb92427ae41e4649b934ca495991b7852b855"
	rows := []struct {
		parts [][]byte
		text  string
	}{
		{nil, nothing},
		{[][]byte{}, nothing},
		{[][]byte{nil}, nothing},
		{[][]byte{{}, nil, {}}, nothing},
		{[][]byte{[]byte("abc")}, "ba7816bf8f01cfea414140de5dae2223b00361a396177a9cb410ff61f20015ad"},
		{[][]byte{[]byte("a"), nil, []byte("bc")}, "ba7816bf8f01cfea414140de5dae2223b00361a396177a9cb410ff61f20015ad"},
		{[][]byte{[]byte("abcdbcdecdefdefgefghfghighijhijkijkljklmklmnlmnomnopnopq")}, "248d6a61d20638b8e5c026930c3e6039a33ce45964ff2167f6ecedd419db06c1"},
		{[][]byte{bytes.Repeat([]byte("a"), 1000000)}, "cdc76e5c9914fb9281a1c7e284d73e67f1809a48a497200e046d39ccc7112cd0"},
	}
	for _, x := range rows {
		if s := sha.Text(sha.Sum(x.parts...)); s != x.text {
			t.Error(s, x.text)
		}
	}
}

// P1.2: Sum at each number of bytes about the bounds of four blocks, cut at each place.
func TestSumBounds(t *testing.T) {
	all := bytesOf(260, 1)
	for n := range all {
		want := api.Hash(sha256.Sum256(all[:n]))
		if sha.Sum(all[:n]) != want {
			t.Fatal(n)
		}
		for cut := range n {
			if sha.Sum(all[:cut], nil, all[cut:n]) != want {
				t.Fatal(n, cut)
			}
		}
	}
}

// P1.2: Twice is the hash of the hash.
func TestTwice(t *testing.T) {
	if s := sha.Text(sha.Twice()); s != "5df6e0e2761359d30a8275058e299fcc0381534545f55cf43e41983f5d4c9456" {
		t.Error(s)
	}
	if s := sha.Text(sha.Twice([]byte("hel"), []byte("lo"))); s != "9595c9df90075148eb06860365df33584b75bff782a510c6cd4883a419833d50" {
		t.Error(s)
	}
}

// P1.2: Named stands under the name's hash, twice.
func TestNamed(t *testing.T) {
	long := strings.Repeat("name ", 100)
	for _, name := range []string{"", "a", "key", "\xff\xfe", "n\x00", long} {
		head := sha256.Sum256([]byte(name))
		for n := range 200 {
			b := bytesOf(n, 7)
			want := api.Hash(sha256.Sum256(slices.Concat(head[:], head[:], b)))
			if sha.Named(name, b[:n/3], nil, b[n/3:]) != want {
				t.Fatal(name, n)
			}
		}
		if sha.Named(name) != sha.Named(name, nil, []byte{}) {
			t.Error(name)
		}
	}
	apart := map[api.Hash]string{}
	for _, x := range [][2]string{{"", "ab"}, {"a", "b"}, {"ab", ""}, {"", ""}, {"b", "a"}} {
		h := sha.Named(x[0], []byte(x[1]))
		if was, ok := apart[h]; ok || h == sha.Sum([]byte(x[0]+x[1])) {
			t.Error(x, was)
		}
		apart[h] = x[0] + " " + x[1]
	}
}

// P1.2: what is handed in stays as it is, spare room behind it included.
func TestNothingChanges(t *testing.T) {
	room := bytesOf(300, 3)
	was := slices.Clone(room)
	parts := make([][]byte, 2, 5)
	parts[0], parts[1] = room[10:70], room[70:75]
	sha.Sum(parts...)
	sha.Twice(parts...)
	sha.Named("x", parts...)
	sha.New().Write(room[:1])
	if !bytes.Equal(room, was) || len(parts[0]) != 60 || len(parts[1]) != 5 || parts[:5][2] != nil || &parts[0][0] != &room[10] {
		t.Error("an argument is changed")
	}
}

// P1.3: Text has two small digits of each byte, the higher bits first.
func TestText(t *testing.T) {
	if s := sha.Text(api.Hash{}); s != strings.Repeat("0", 64) {
		t.Error(s)
	}
	h := api.Hash{0: 0x01, 1: 0x23, 2: 0x45, 3: 0x67, 4: 0x89, 5: 0xab, 6: 0xcd, 7: 0xef, 31: 0xf0}
	if s := sha.Text(h); s != "0123456789abcdef"+strings.Repeat("0", 46)+"f0" {
		t.Error(s)
	}
}

// P1.3: Parse takes what Text tells, and nothing else.
func TestParse(t *testing.T) {
	if h := parsed(t, strings.Repeat("0", 64)); h != (api.Hash{}) {
		t.Error(h)
	}
	if h := parsed(t, "a1"+strings.Repeat("0", 60)+"2f"); h != (api.Hash{0: 0xa1, 31: 0x2f}) {
		t.Error(h)
	}
	good := strings.Repeat("1f", 32)
	wrong := []string{
		"", "0", good[1:], good[2:], good + "0", good + "00", good + good, " " + good[1:], good[1:] + "\n",
		"0x" + good[2:], "-" + good[1:], strings.ToUpper(good), strings.Repeat("é", 32), strings.Repeat("０", 64), strings.Repeat("\xff", 64),
	}
	for _, c := range "/:@AFG`gz\x00\x80" {
		for at := range 64 {
			wrong = append(wrong, good[:at]+string(c)+good[at+1:], good[:at]+string([]byte{byte(c)})+good[at+1:])
		}
	}
	for _, s := range wrong {
		if h, e := sha.Parse(s); e != api.ErrHex || h != (api.Hash{}) {
			t.Errorf("%q: %v %v", s, h, e)
		}
	}
}

// P1.4: a sum under way tells of all that came, and goes on behind that.
func TestRun(t *testing.T) {
	all := bytesOf(400, 5)
	for _, step := range []int{1, 3, 55, 56, 63, 64, 65, 128, 399} {
		r := sha.New()
		for n := 0; n <= len(all); n += step {
			if r.Len() != int64(n) {
				t.Fatal(step, n, r.Len())
			}
			for range 2 {
				if r.Sum() != api.Hash(sha256.Sum256(all[:n])) {
					t.Fatal(step, n)
				}
			}
			b := slices.Clone(all[n:min(n+step, len(all))])
			if e := r.Write(b); e != api.OK {
				t.Fatal(e)
			}
			clear(b)
		}
	}
	r := sha.New()
	if r.Write(nil) != api.OK || r.Write([]byte{}) != api.OK || r.Len() != 0 || r.Sum() != sha.Sum() {
		t.Error("nothing counts as something")
	}
}

// P1.4: of none there is nothing; a zero object is as none.
func TestRunOfNone(t *testing.T) {
	var none *sha.Run
	for _, r := range []*sha.Run{none, {}} {
		for range 2 {
			if e := r.Write([]byte("abc")); e != api.ErrNil {
				t.Error(e)
			}
			if e := r.Write(nil); e != api.ErrNil {
				t.Error(e)
			}
			if r.Sum() != (api.Hash{}) || r.Len() != 0 || r.Copy() != nil {
				t.Error(r.Sum(), r.Len(), r.Copy())
			}
		}
	}
	if sha.New() == sha.New() {
		t.Error("two sums under way are one")
	}
}

// P1.5: a sum that is forked goes on in each branch as if its bytes had come there.
func TestFork(t *testing.T) {
	all := bytesOf(200, 9)
	for n := range all {
		r := sha.New()
		r.Write(all[:n])
		other := r.Copy()
		r.Write(all[n:])
		if other.Len() != int64(n) || other.Sum() != sha.Sum(all[:n]) {
			t.Fatal("the copy goes along", n)
		}
		other.Write([]byte("another way"))
		third := other.Copy()
		other.Write(all)
		if r.Len() != 200 || r.Sum() != sha.Sum(all) {
			t.Fatal("the first one goes along", n)
		}
		if third.Sum() != sha.Sum(all[:n], []byte("another way")) || other.Sum() != sha.Sum(all[:n], []byte("another way"), all) {
			t.Fatal(n)
		}
	}
}

// P1.5: what is pressed block by block is what Sum tells.
func TestBlockByBlock(t *testing.T) {
	for n := range 300 {
		b := bytesOf(n, 11)
		whole := append(slices.Clone(b), 128)
		for len(whole)%64 != 56 {
			whole = append(whole, 0)
		}
		whole = append(whole, 0, 0, 0, 0, 0, 0, byte(8*n>>8), byte(8*n))
		s := sha.First()
		for block := range slices.Chunk(whole, 64) {
			s = sha.Press(s, [64]byte(block))
		}
		if hashOf(s) != sha.Sum(b) {
			t.Fatal(n)
		}
	}
}

// P1.5: texts stand in the order of their hashes; Parse and Text undo one another.
func TestTextsOrder(t *testing.T) {
	l := []api.Hash{{}, {31: 1}, {0: 1}, {0: 9}, {0: 10}, {0: 0x9f}, {0: 0xa0}, {0: 0xff}, {0: 0xff, 31: 0xff}}
	for i := range uint32(60) {
		l = append(l, api.Hash(bytesOf(32, i)))
	}
	for _, a := range l {
		if parsed(t, sha.Text(a)) != a || sha.Text(parsed(t, sha.Text(a))) != sha.Text(a) {
			t.Error(a)
		}
		for _, b := range l {
			if strings.Compare(sha.Text(a), sha.Text(b)) != bytes.Compare(a[:], b[:]) {
				t.Error(a, b)
			}
		}
	}
}
