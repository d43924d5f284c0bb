package hmac_test

import (
	"bytes"
	"crypto/hkdf"
	stdhmac "crypto/hmac"
	"crypto/sha256"
	"encoding/binary"
	"encoding/hex"
	"math"
	"slices"
	"strings"
	"testing"

	"tallystick/api"
	"tallystick/hmac"
	"tallystick/sha"
)

// bytesOf makes n bytes that follow no simple pattern, the same at each call.
func bytesOf(n int, seed uint32) []byte {
	b := make([]byte, n)
	for i := range b {
		seed = seed*1664525 + 1013904223
		b[i] = byte(seed >> 24)
	}
	return b
}

// plainTag is the library's tag.
func plainTag(key []byte, parts ...[]byte) api.Hash {
	m := stdhmac.New(sha256.New, key)
	for _, p := range parts {
		m.Write(p)
	}
	return api.Hash(m.Sum(nil))
}

func unhex(t *testing.T, s string) []byte {
	t.Helper()
	b, err := hex.DecodeString(s)
	if err != nil {
		t.Fatal(err)
	}
	return b
}

func expanded(t *testing.T, key []byte, name string, n int) []byte {
	t.Helper()
	b, e := hmac.Expand(key, name, n)
	if e != api.OK || len(b) != n {
		t.Fatal(n, len(b), e)
	}
	return b
}

// keyLengths stand about the bounds of a block.
var keyLengths = []int{0, 1, 31, 32, 33, 55, 56, 63, 64, 65, 66, 127, 128, 129, 500}

// P2.1: Tag of what is known of old (RFC 4231).
func TestTagKnown(t *testing.T) {
	rows := []struct{ key, message, tag string }{
		{strings.Repeat("\x0b", 20), "Hi There", "b0344c61d8db38535ca8afceaf0bf12b881dc200c9833da726e9376c2e32cff7"},
		{"Jefe", "what do ya want for nothing?", "5bdcc146bf60754e6a042426089575c75a003f089d2739839dec58b964ec3843"},
		{strings.Repeat("\xaa", 131), "Test Using Larger Than Block-Size Key - Hash Key First", "60e431591ee0b67f0d8a26aacbf5b77f8e0bc6213728c5140546040f0ee37f54"},
		{"", "", "b613679a0814d9ec772f95d778c35fc5ff1697c493715653c6c712144292c5ad"},
	}
	for _, x := range rows {
		if s := sha.Text(hmac.Tag([]byte(x.key), []byte(x.message))); s != x.tag {
			t.Error(s, x.tag)
		}
	}
	if hmac.Tag(nil) != hmac.Tag([]byte{}, nil, []byte{}) {
		t.Error("nil and empty differ")
	}
}

// P2.1: Tag by keys about the bounds of a block, of messages about them.
func TestTag(t *testing.T) {
	for _, k := range keyLengths {
		key := bytesOf(k, 1)
		for n := range 140 {
			message := bytesOf(n, 2)
			if hmac.Tag(key, message) != plainTag(key, message) {
				t.Fatal(k, n)
			}
		}
	}
}

// P2.1: Right tells the tag from every other one.
func TestRight(t *testing.T) {
	key, a, b := []byte("k"), []byte("a"), []byte("b")
	tag := hmac.Tag(key, a, b)
	if !hmac.Right(key, tag, []byte("ab")) || !hmac.Right(key, tag, a, nil, b) || hmac.Right(key, hmac.Tag(key, a), b) {
		t.Error("the chapter's rows")
	}
	for i := range 8 * len(tag) {
		other := tag
		other[i/8] ^= 1 << (i % 8)
		if hmac.Right(key, other, a, b) {
			t.Error("bit", i)
		}
	}
	if hmac.Right(key, tag) || hmac.Right(nil, tag, a, b) || hmac.Right(key, tag, b, a) || hmac.Right(key, api.Hash{}, a, b) || hmac.Right(nil, api.Hash{}) {
		t.Error("a wrong tag is right")
	}
	if !hmac.Right(nil, plainTag(nil)) {
		t.Error("a right tag is wrong")
	}
}

// P2.1: Extract, of what is known of old (RFC 5869), and against the library.
func TestExtract(t *testing.T) {
	salt, secret := unhex(t, "000102030405060708090a0b0c"), bytes.Repeat([]byte{0x0b}, 22)
	if s := sha.Text(hmac.Extract(salt, secret)); s != "077709362c2e32df0ddc3f0dc47bba6390b6c73bb50f9c3122ec844ad7c2b3e5" {
		t.Error(s)
	}
	if s := sha.Text(hmac.Extract(nil, secret[:10], nil, secret[10:])); s != "19ef24a32c717b167f33a91d6f648bdf96596776afdb6377ac434c1c293ccb04" {
		t.Error(s)
	}
	for _, n := range keyLengths {
		salt := bytesOf(n, 3)
		want, err := hkdf.Extract(sha256.New, secret, salt)
		if err != nil || hmac.Extract(salt, secret) != api.Hash(want) {
			t.Error(n, err)
		}
	}
}

// P2.2: Expand, of what is known of old (RFC 5869).
func TestExpandKnown(t *testing.T) {
	key := unhex(t, "077709362c2e32df0ddc3f0dc47bba6390b6c73bb50f9c3122ec844ad7c2b3e5")
	name := string(unhex(t, "f0f1f2f3f4f5f6f7f8f9"))
	want := unhex(t, "3cb25f25faacd57a90434f64d0362f2a2d2d0a90cf1a5a4c5db02d56ecc4c5bf34007208d5b887185865")
	if is := expanded(t, key, name, 42); !bytes.Equal(is, want) {
		t.Errorf("%x", is)
	}
}

// P2.2: Expand to each number of bytes about the bounds of a tag, up to the most.
func TestExpand(t *testing.T) {
	long := strings.Repeat("a long name ", 30)
	for _, n := range []int{0, 1, 2, 31, 32, 33, 63, 64, 65, 95, 96, 97, 1000, 8127, 8128, 8129, 8159, 8160} {
		for _, k := range []int{0, 1, 32, 64, 65, 200} {
			for _, name := range []string{"", "x", "\xff\x00\xfe", long} {
				key := bytesOf(k, 5)
				want, err := hkdf.Expand(sha256.New, key, name, n)
				if is := expanded(t, key, name, n); err != nil || !bytes.Equal(is, want) {
					t.Fatal(n, k, name, err)
				}
			}
		}
	}
}

// P2.2: Expand to a number of bytes that may not be.
func TestExpandWrong(t *testing.T) {
	for _, n := range []int{8161, 8162, 8192, math.MaxInt, -1, -32, -8160, math.MinInt} {
		if b, e := hmac.Expand([]byte("k"), "x", n); e != api.ErrArg || len(b) != 0 {
			t.Error(n, len(b), e)
		}
	}
}

// P2.2: Child by one step is expanded by its name, a byte 0, and its number, the highest byte ahead.
func TestChild(t *testing.T) {
	for _, name := range []string{"", "a", "\x00", "\xff", strings.Repeat("n", 100)} {
		for _, number := range []uint64{0, 1, 255, 256, 0x0102030405060708, math.MaxUint64} {
			for _, k := range keyLengths {
				key := bytesOf(k, 6)
				full := string(binary.BigEndian.AppendUint64([]byte(name+"\x00"), number))
				want, err := hkdf.Expand(sha256.New, key, full, 32)
				if is := hmac.Child(key, api.Step{Name: name, Number: number}); err != nil || is != api.Hash(want) {
					t.Fatal(name, number, k, err)
				}
			}
		}
	}
	apart := map[api.Hash]api.Step{}
	for _, s := range []api.Step{{}, {Name: "\x00"}, {Name: "a"}, {Name: "a\x00"}, {Name: "a", Number: 1}, {Number: 1}, {Number: 256}} {
		h := hmac.Child([]byte("k"), s)
		if was, ok := apart[h]; ok {
			t.Error(was, s)
		}
		apart[h] = s
	}
}

// P2.2, P2.4: by no step there is the key's hash; by several one child comes of the other.
func TestChildOfSteps(t *testing.T) {
	steps := []api.Step{{Name: "a", Number: 1}, {Name: "b", Number: 2}, {}, {Name: "a", Number: 1}, {Name: "c", Number: math.MaxUint64}}
	for _, k := range keyLengths {
		key := bytesOf(k, 7)
		if hmac.Child(key) != sha.Sum(key) || hmac.Child(key, []api.Step{}...) != sha.Sum(key) {
			t.Error("by none", k)
		}
		for n := 2; n <= len(steps); n++ {
			for cut := 1; cut < n; cut++ {
				between := hmac.Child(key, steps[:cut]...)
				if hmac.Child(between[:], steps[cut:n]...) != hmac.Child(key, steps[:n]...) {
					t.Error(k, n, cut)
				}
			}
		}
	}
	if hmac.Child(nil, steps[0], steps[1]) == hmac.Child(nil, steps[1], steps[0]) {
		t.Error("the order of steps does not count")
	}
}

// P2.3: a tag under way tells of all that was written, and goes on behind that.
func TestMac(t *testing.T) {
	all := bytesOf(400, 8)
	for _, k := range keyLengths {
		key := bytesOf(k, 9)
		for _, step := range []int{1, 7, 63, 64, 65, 399} {
			m := hmac.New(key)
			for n := 0; n <= len(all); n += step {
				for range 2 {
					if m.Tag() != plainTag(key, all[:n]) {
						t.Fatal(k, step, n)
					}
				}
				b := slices.Clone(all[n:min(n+step, len(all))])
				if e := m.Write(b); e != api.OK {
					t.Fatal(e)
				}
				clear(b)
			}
		}
	}
	m := hmac.New(nil)
	if m.Write(nil) != api.OK || m.Write([]byte{}) != api.OK || m.Tag() != hmac.Tag(nil) {
		t.Error("nothing counts as something")
	}
}

// P2.3: the key is copied.
func TestKeyIsCopied(t *testing.T) {
	for _, k := range keyLengths {
		key := bytesOf(k, 10)
		was := slices.Clone(key)
		m := hmac.New(key)
		other := m.Copy()
		clear(key)
		m.Write([]byte("x"))
		if m.Tag() != plainTag(was, []byte("x")) || other.Tag() != plainTag(was) {
			t.Error(k)
		}
	}
}

// P2.3: a copy goes on apart.
func TestCopy(t *testing.T) {
	key, all := []byte("a key"), bytesOf(200, 11)
	for n := range all {
		m := hmac.New(key)
		m.Write(all[:n])
		other := m.Copy()
		m.Write(all[n:])
		if other == m || other.Tag() != plainTag(key, all[:n]) {
			t.Fatal("the copy goes along", n)
		}
		other.Write([]byte("another way"))
		third := other.Copy()
		other.Write(all)
		if m.Tag() != plainTag(key, all) || third.Tag() != plainTag(key, all[:n], []byte("another way")) {
			t.Fatal("the first one goes along", n)
		}
		if other.Tag() != plainTag(key, all[:n], []byte("another way"), all) {
			t.Fatal(n)
		}
	}
}

// P2.3: of none there is nothing; a zero object is as none.
func TestMacOfNone(t *testing.T) {
	var none *hmac.Mac
	for _, m := range []*hmac.Mac{none, {}} {
		for range 2 {
			if m.Write([]byte("abc")) != api.ErrNil || m.Write(nil) != api.ErrNil {
				t.Error("a write to none goes")
			}
			if m.Tag() != (api.Hash{}) || m.Copy() != nil {
				t.Error(m.Tag(), m.Copy())
			}
		}
	}
}

// P2.4: it does not matter how a message is cut.
func TestCuts(t *testing.T) {
	key, all := []byte("k"), bytesOf(150, 12)
	want := plainTag(key, all)
	for i := range all {
		for j := i; j <= len(all); j += 13 {
			parts := [][]byte{all[:i], nil, all[i:j], all[j:]}
			m := hmac.New(key)
			for _, p := range parts {
				m.Write(p)
			}
			if hmac.Tag(key, parts...) != want || hmac.Extract(key, parts...) != want || !hmac.Right(key, want, parts...) || m.Tag() != want {
				t.Fatal(i, j)
			}
		}
	}
}

// P2.4: fewer bytes are the beginning of more.
func TestBeginnings(t *testing.T) {
	most := expanded(t, []byte("k"), "x", 8160)
	for n := 0; n <= 8160; n += 1 + n/20 {
		if !bytes.HasPrefix(most, expanded(t, []byte("k"), "x", n)) {
			t.Fatal(n)
		}
	}
}

// P2.4: a long key and its hash make the same tags; so do a short one and it with noughts behind, up to a block.
func TestKeysAlike(t *testing.T) {
	message := []byte("message")
	for n := range 200 {
		key := bytesOf(n, 13)
		h := sha.Sum(key)
		if (hmac.Tag(key, message) == hmac.Tag(h[:], message)) != (n > 64) {
			t.Error("a key and its hash", n)
		}
		for more := n + 1; more <= 66; more++ {
			longer := append(slices.Clone(key), make([]byte, more-n)...)
			if (hmac.Tag(key, message) == hmac.Tag(longer, message)) != (more <= 64) {
				t.Error("noughts behind", n, more)
			}
		}
	}
}

// P2.1 to P2.3: what is handed in stays as it is, spare room behind it included; answers share nothing.
func TestNothingChanges(t *testing.T) {
	room := bytesOf(300, 14)
	was := slices.Clone(room)
	key, part := room[10:40], room[100:130]
	parts := make([][]byte, 1, 3)
	parts[0] = part
	steps := make([]api.Step, 1, 3)
	steps[0] = api.Step{Name: "a", Number: 5}
	hmac.Tag(key, parts...)
	hmac.Right(key, api.Hash{}, parts...)
	hmac.Extract(key, parts...)
	hmac.Child(key, steps...)
	m := hmac.New(key)
	m.Write(part)
	m.Tag()
	one, two := expanded(t, key, "x", 40), expanded(t, key, "x", 40)
	clear(one)
	if bytes.Equal(one, two) {
		t.Error("answers share memory")
	}
	if !bytes.Equal(room, was) || parts[:3][1] != nil || steps[0] != (api.Step{Name: "a", Number: 5}) || steps[:3][1] != (api.Step{}) {
		t.Error("an argument is changed")
	}
}
