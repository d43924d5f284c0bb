package wire_test

import (
	"bytes"
	"encoding/binary"
	"encoding/hex"
	"hash/crc32"
	"math"
	"math/rand"
	"slices"
	"strings"
	"testing"

	"tallystick/api"
	"tallystick/wire"
)

// maxNumber is the chapter's 2^62.
const maxNumber = 1 << 62

// bounds are numbers at the bounds of each length, and some between, with their bytes.
var bounds = []struct {
	n    int64
	text string
}{
	{0, "00"},
	{1, "01"},
	{127, "7f"},
	{128, "80"},
	{251, "fb"},
	{252, "fc"},
	{253, "fd00fd"},
	{254, "fd00fe"},
	{255, "fd00ff"},
	{256, "fd0100"},
	{0x1234, "fd1234"},
	{65534, "fdfffe"},
	{65535, "fdffff"},
	{65536, "fe00010000"},
	{65537, "fe00010001"},
	{0x12345678, "fe12345678"},
	{1<<31 - 1, "fe7fffffff"},
	{1 << 31, "fe80000000"},
	{1<<32 - 1, "feffffffff"},
	{1 << 32, "ff0000000100000000"},
	{1<<32 + 1, "ff0000000100000001"},
	{0x123456789abcdef0, "ff123456789abcdef0"},
	{1 << 50, "ff0004000000000000"},
	{maxNumber - 1, "ff3fffffffffffffff"},
	{maxNumber, "ff4000000000000000"},
}

// noNumbers are such that have no bytes.
var noNumbers = []int64{-1, -2, -253, math.MinInt32, math.MinInt64, math.MinInt64 + 1, maxNumber + 1, math.MaxInt64 - 1, math.MaxInt64}

// otherForms are whole numbers' bytes, but not in the form in which these are laid; the last ones are above 2^62.
var otherForms = []string{
	"fd0000", "fd0001", "fd00fc",
	"fe00000000", "fe000000fc", "fe000000fd", "fe0000fffe", "fe0000ffff",
	"ff0000000000000000", "ff00000000000000fc", "ff00000000000000fd", "ff000000000000ffff", "ff0000000000010000", "ff00000000fffffffe", "ff00000000ffffffff",
	"ff4000000000000001", "ff7fffffffffffffff", "ff8000000000000000", "ff8000000000000001", "ffffffffffffffffff",
}

func unhex(t *testing.T, s string) []byte {
	t.Helper()
	b, err := hex.DecodeString(s)
	if err != nil {
		t.Fatal(err)
	}
	return b
}

// plainNumber lays a number by the library.
func plainNumber(n int64) []byte {
	switch {
	case n < 253:
		return []byte{byte(n)}
	case n < 1<<16:
		return binary.BigEndian.AppendUint16([]byte{253}, uint16(n))
	case n < 1<<32:
		return binary.BigEndian.AppendUint32([]byte{254}, uint32(n))
	}
	return binary.BigEndian.AppendUint64([]byte{255}, uint64(n))
}

// plainFrame frames by the library.
func plainFrame(b []byte) []byte {
	sum := crc32.Checksum(b, crc32.MakeTable(crc32.Castagnoli))
	return slices.Concat(plainNumber(int64(len(b)+4)), b, binary.LittleEndian.AppendUint32(nil, sum))
}

// bytesOf makes n bytes that follow no simple pattern, the same at each call.
func bytesOf(n int, seed uint32) []byte {
	b := make([]byte, n)
	for i := range b {
		seed = seed*1664525 + 1013904223
		b[i] = byte(seed >> 24)
	}
	return b
}

func hashOf(seed uint32) api.Hash { return api.Hash(bytesOf(32, seed)) }

func framed(t *testing.T, b []byte) []byte {
	t.Helper()
	f, e := wire.Frame(b)
	if e != api.OK {
		t.Fatal(len(b), e)
	}
	return f
}

// P4.1: a new writer has nothing; New makes another one each time.
func TestNew(t *testing.T) {
	w, other := wire.New(), wire.New()
	if w == nil || other == nil || w == other || len(w.All()) != 0 {
		t.Fatal("a new writer")
	}
	w.Number(5)
	if len(other.All()) != 0 || !bytes.Equal(w.All(), []byte{5}) {
		t.Error("writers are not apart")
	}
}

// P4.1: the chapter's rows.
func TestNumberExample(t *testing.T) {
	w := wire.New()
	if e := w.Number(252, 253, 65536); e != api.OK || !bytes.Equal(w.All(), unhex(t, "fcfd00fdfe00010000")) {
		t.Errorf("%x %d", w.All(), e)
	}
}

// P4.1: Number at the bounds of each length, one by one, and as one list.
func TestNumberLaid(t *testing.T) {
	var l []int64
	var want []byte
	whole, slow := wire.New(), wire.New()
	for _, x := range bounds {
		w := wire.New()
		if e := w.Number(x.n); e != api.OK || !bytes.Equal(w.All(), unhex(t, x.text)) || !bytes.Equal(w.All(), plainNumber(x.n)) {
			t.Errorf("%d: %x %d", x.n, w.All(), e)
		}
		l, want = append(l, x.n), append(want, w.All()...)
		if e := slow.Number(x.n); e != api.OK || !bytes.Equal(slow.All(), want) {
			t.Errorf("behind others: %d", x.n)
		}
	}
	if e := whole.Number(l...); e != api.OK || !bytes.Equal(whole.All(), want) {
		t.Errorf("%x %d", whole.All(), e)
	}
	if e := whole.Number(); e != api.OK || !bytes.Equal(whole.All(), want) {
		t.Error("no number", e)
	}
	for n := range int64(70000) {
		w := wire.New()
		if e := w.Number(n); e != api.OK || !bytes.Equal(w.All(), plainNumber(n)) {
			t.Fatalf("%d: %x %d", n, w.All(), e)
		}
	}
}

// P4.1: beside a number that may not be none is laid, wherever it stands.
func TestNumberWrong(t *testing.T) {
	for _, n := range noNumbers {
		for place := range 4 {
			w := wire.New()
			w.Text("ahead")
			l := slices.Insert([]int64{1, 2, maxNumber}, place, n)
			if e := w.Number(l...); e != api.ErrArg || string(w.All()) != "\x05ahead" {
				t.Errorf("%d at %d: %d %q", n, place, e, w.All())
			}
			if e := w.Number(7); e != api.OK || string(w.All()) != "\x05ahead\x07" {
				t.Errorf("behind %d: %d %q", n, e, w.All())
			}
		}
	}
}

// P4.1: truths, hashes, texts.
func TestOthersLaid(t *testing.T) {
	w := wire.New()
	one, two := hashOf(1), hashOf(2)
	steps := []api.Errno{
		w.Truth(), w.Truth(true), w.Truth(false), w.Truth(true, true, false),
		w.Hash(), w.Hash(one), w.Hash(two, api.Hash{}),
		w.Text(""), w.Text("hi"), w.Text("\xff\x00"),
	}
	for i, e := range steps {
		if e != api.OK {
			t.Error(i, e)
		}
	}
	want := slices.Concat([]byte{1, 0, 1, 1, 0}, one[:], two[:], make([]byte, 32), []byte("\x00\x02hi\x02\xff\x00"))
	if !bytes.Equal(w.All(), want) {
		t.Errorf("%x", w.All())
	}
}

// P4.1: texts of each length of their number, up to the most, and one past it.
func TestTextLaid(t *testing.T) {
	for _, n := range []int{0, 1, 252, 253, 254, 65535, 65536, api.MaxText - 1, api.MaxText} {
		w := wire.New()
		s := string(bytesOf(n, 3))
		if e := w.Text(s); e != api.OK || !bytes.Equal(w.All(), append(plainNumber(int64(n)), s...)) {
			t.Error(n, e)
		}
	}
	for _, n := range []int{api.MaxText + 1, 2 * api.MaxText} {
		w := wire.New()
		w.Number(9)
		if e := w.Text(strings.Repeat("x", n)); e != api.ErrLong || !bytes.Equal(w.All(), []byte{9}) {
			t.Error(n, e)
		}
		if e := w.Text("x"); e != api.OK || !bytes.Equal(w.All(), []byte{9, 1, 'x'}) {
			t.Error(n, e)
		}
	}
}

// P4.1: no writer, and a zero one: ErrNil ahead of all other errors.
func TestWriterOfNone(t *testing.T) {
	var none *wire.Writer
	long := strings.Repeat("x", api.MaxText+1)
	for _, w := range []*wire.Writer{none, {}} {
		for range 2 {
			for i, e := range []api.Errno{w.Number(), w.Number(1), w.Number(-1), w.Truth(), w.Truth(true), w.Hash(), w.Hash(api.Hash{}), w.Text(""), w.Text("x"), w.Text(long)} {
				if e != api.ErrNil {
					t.Error(i, e)
				}
			}
			if w.All() != nil {
				t.Error(w.All())
			}
		}
	}
}

// P4.1: what All answers shares nothing with the writer, nor with another answer.
func TestAllApart(t *testing.T) {
	w := wire.New()
	w.Text("a text")
	one, two := w.All(), w.All()
	clear(one[:cap(one)])
	if string(two) != "\x06a text" || string(w.All()) != "\x06a text" {
		t.Fatal("an answer is shared")
	}
	_ = append(two, 9, 9, 9)
	w.Number(7)
	if string(two) != "\x06a text" || string(w.All()) != "\x06a text\x07" {
		t.Error("room behind an answer is shared")
	}
}

// P4.2: numbers at the bounds of each length, with the least bound, and with one that is too low by one.
func TestNumberRead(t *testing.T) {
	for _, x := range bounds {
		b := append(unhex(t, x.text), 77)
		for _, most := range []int64{x.n, min(x.n, maxNumber-1) + 1, maxNumber, maxNumber + 1, math.MaxInt64} {
			r := wire.Read(b)
			if n, e := r.Number(most); n != x.n || e != api.OK || r.Left() != 1 {
				t.Errorf("%d up to %d: %d %d, left %d", x.n, most, n, e, r.Left())
			}
		}
		if x.n == 0 {
			continue
		}
		for _, most := range []int64{x.n - 1, x.n / 2, 0} {
			r := wire.Read(b)
			if n, e := r.Number(most); n != 0 || e != api.ErrWire || r.Left() != len(b) {
				t.Errorf("%d up to %d: %d %d, left %d", x.n, most, n, e, r.Left())
			}
		}
	}
	for n := range int64(70000) {
		r := wire.Read(plainNumber(n))
		if is, e := r.Number(n); is != n || e != api.OK || r.End() != api.OK {
			t.Fatal(n, is, e)
		}
	}
}

// P4.2, P4.4: numbers of other forms, and above 2^62, are not read, nor as a text's number.
func TestOtherForms(t *testing.T) {
	for _, text := range otherForms {
		b := unhex(t, text)
		r := wire.Read(b)
		if n, e := r.Number(math.MaxInt64); n != 0 || e != api.ErrWire || r.Left() != len(b) {
			t.Errorf("%s: %d %d", text, n, e)
		}
		long := append(b, make([]byte, 70000)...)
		r = wire.Read(long)
		if s, e := r.Text(math.MaxInt); s != "" || e != api.ErrWire || r.Left() != len(long) {
			t.Errorf("text %s: %d bytes, %d", text, len(s), e)
		}
	}
}

// P4.2: bytes that lack, at each place.
func TestCutShort(t *testing.T) {
	for _, x := range bounds {
		b := unhex(t, x.text)
		for n := range b {
			r := wire.Read(b[:n])
			if is, e := r.Number(maxNumber); is != 0 || e != api.ErrWire || r.Left() != n {
				t.Errorf("%s, %d of it: %d %d", x.text, n, is, e)
			}
		}
	}
	if is, e := wire.Read(nil).Truth(); is || e != api.ErrWire {
		t.Error(is, e)
	}
	for n := range 32 {
		r := wire.Read(bytesOf(n, 1))
		if h, e := r.Hash(); h != (api.Hash{}) || e != api.ErrWire || r.Left() != n {
			t.Error(n, h, e)
		}
	}
	for _, n := range []int{1, 5, 252, 253, 300} {
		w := wire.New()
		w.Text(string(bytesOf(n, 2)))
		for cut := range w.All() {
			r := wire.Read(w.All()[:cut])
			if s, e := r.Text(n); s != "" || e != api.ErrWire || r.Left() != cut {
				t.Fatal(n, cut, len(s), e)
			}
		}
	}
}

// P4.2: a truth is 1 or 0.
func TestTruthRead(t *testing.T) {
	for b := range 256 {
		r := wire.Read([]byte{byte(b), 1})
		is, e := r.Truth()
		if b <= 1 && (is != (b == 1) || e != api.OK || r.Left() != 1) || b > 1 && (is || e != api.ErrWire || r.Left() != 2) {
			t.Error(b, is, e, r.Left())
		}
	}
}

// P4.2: a hash is its 32 bytes.
func TestHashRead(t *testing.T) {
	one, two := hashOf(1), hashOf(2)
	r := wire.Read(slices.Concat(one[:], two[:], []byte{5}))
	for i, want := range []api.Hash{one, two} {
		if h, e := r.Hash(); h != want || e != api.OK || r.Left() != 33-32*i {
			t.Error(i, h, e, r.Left())
		}
	}
	if h, e := r.Hash(); h != (api.Hash{}) || e != api.ErrWire {
		t.Error(h, e)
	}
}

// P4.2: texts, with the least bound, and with one that is too low by one.
func TestTextRead(t *testing.T) {
	for _, n := range []int{0, 1, 5, 252, 253, 65535, 65536, api.MaxText} {
		want := string(bytesOf(n, 4))
		b := append(append(plainNumber(int64(n)), want...), 9)
		for _, most := range []int{n, n + 1, math.MaxInt} {
			r := wire.Read(b)
			if s, e := r.Text(most); s != want || e != api.OK || r.Left() != 1 {
				t.Errorf("%d up to %d: %d bytes, %d", n, most, len(s), e)
			}
		}
		if n == 0 {
			continue
		}
		for _, most := range []int{n - 1, 0} {
			r := wire.Read(b)
			if s, e := r.Text(most); s != "" || e != api.ErrWire || r.Left() != len(b) {
				t.Errorf("%d up to %d: %d bytes, %d", n, most, len(s), e)
			}
		}
	}
	if s, e := wire.Read([]byte{2, 'h'}).Text(9); s != "" || e != api.ErrWire {
		t.Error(s, e)
	}
	for _, x := range bounds {
		if s, e := wire.Read(unhex(t, x.text)).Text(math.MaxInt); s != "" || (e == api.OK) != (x.n == 0) {
			t.Error(x.n, s, e)
		}
	}
}

// P4.2: the bound of a text that is read is the one that is asked for, also above the most that is laid.
func TestTextReadLong(t *testing.T) {
	n := api.MaxText + 1
	b := append(plainNumber(int64(n)), make([]byte, n)...)
	if s, e := wire.Read(b).Text(n); len(s) != n || e != api.OK {
		t.Error(len(s), e)
	}
	if s, e := wire.Read(b).Text(n - 1); s != "" || e != api.ErrWire {
		t.Error(len(s), e)
	}
}

// P4.2: a bound below 0 is ErrArg; it takes nothing, and is not what a reader refuses by.
func TestBoundsBelow(t *testing.T) {
	for _, b := range [][]byte{nil, {5}, {255}, {253, 0, 0}, {3, 'a', 'b', 'c'}} {
		r := wire.Read(b)
		for _, most := range []int64{-1, -2, math.MinInt64} {
			if n, e := r.Number(most); n != 0 || e != api.ErrArg || r.Left() != len(b) {
				t.Error(b, most, n, e)
			}
			if s, e := r.Text(int(most)); s != "" || e != api.ErrArg || r.Left() != len(b) {
				t.Error(b, most, s, e)
			}
		}
		if n, e := r.Number(9); (e == api.OK) != (len(b) > 0 && b[0] <= 9) || e == api.OK && n != int64(b[0]) {
			t.Error(b, n, e)
		}
	}
}

// refusals are calls by which a reader refuses something, of each kind, with the bytes by which it does.
var refusals = []struct {
	name string
	b    []byte
	call func(r *wire.Reader) api.Errno
}{
	{"number, another form", []byte{253, 0, 1, 1, 1}, func(r *wire.Reader) api.Errno { _, e := r.Number(maxNumber); return e }},
	{"number, above the bound", []byte{1, 1, 1}, func(r *wire.Reader) api.Errno { _, e := r.Number(0); return e }},
	{"number, cut", []byte{253, 1}, func(r *wire.Reader) api.Errno { _, e := r.Number(maxNumber); return e }},
	{"number, none", nil, func(r *wire.Reader) api.Errno { _, e := r.Number(maxNumber); return e }},
	{"truth", []byte{2, 1, 1}, func(r *wire.Reader) api.Errno { _, e := r.Truth(); return e }},
	{"truth, none", nil, func(r *wire.Reader) api.Errno { _, e := r.Truth(); return e }},
	{"hash", make([]byte, 31), func(r *wire.Reader) api.Errno { _, e := r.Hash(); return e }},
	{"text, above the bound", []byte{1, 0, 0, 0}, func(r *wire.Reader) api.Errno { _, e := r.Text(0); return e }},
	{"text, cut", []byte{4, 0, 0, 0}, func(r *wire.Reader) api.Errno { _, e := r.Text(9); return e }},
	{"end", make([]byte, 40), (*wire.Reader).End},
}

// P4.2: a reader that refused something refuses everything from then on, takes nothing, and asks for no bound any more.
func TestRefused(t *testing.T) {
	for _, x := range refusals {
		r := wire.Read(x.b)
		if e := x.call(r); e != api.ErrWire || r.Left() != len(x.b) {
			t.Errorf("%s: %d, left %d", x.name, e, r.Left())
		}
		for range 2 {
			n, f := r.Number(maxNumber)
			m, g := r.Number(-1)
			is, h := r.Truth()
			hash, i := r.Hash()
			s, j := r.Text(99)
			u, k := r.Text(-1)
			for at, e := range []api.Errno{f, g, h, i, j, k, r.End()} {
				if e != api.ErrWire {
					t.Errorf("%s: %d: %d", x.name, at, e)
				}
			}
			if n != 0 || m != 0 || is || hash != (api.Hash{}) || s != "" || u != "" || r.Left() != len(x.b) {
				t.Errorf("%s: something is read", x.name)
			}
		}
	}
}

// P4.2: what refuses in the midst leaves what was left ahead of it.
func TestRefusedBehind(t *testing.T) {
	for _, x := range refusals {
		r := wire.Read(append([]byte{1, 7, 1, 'x'}, x.b...))
		is, e := r.Truth()
		n, f := r.Number(7)
		s, g := r.Text(1)
		if !is || n != 7 || s != "x" || e != api.OK || f != api.OK || g != api.OK {
			t.Fatal(x.name, is, n, s, e, f, g)
		}
		if e := x.call(r); e != api.ErrWire || r.Left() != len(x.b) || r.End() != api.ErrWire {
			t.Error(x.name, e, r.Left())
		}
	}
}

// P4.2: Left and End.
func TestEnd(t *testing.T) {
	for _, b := range [][]byte{nil, {}} {
		r := wire.Read(b)
		if r == nil || r.Left() != 0 || r.End() != api.OK || r.End() != api.OK {
			t.Error("a reader of nothing")
		}
	}
	r := wire.Read([]byte{1, 2, 3})
	for left := 2; left >= 0; left-- {
		if _, e := r.Number(9); e != api.OK || r.Left() != left {
			t.Error(left, e, r.Left())
		}
	}
	if r.End() != api.OK || r.Left() != 0 {
		t.Error("it is not at its end")
	}
	if _, e := r.Number(9); e != api.ErrWire || r.End() != api.ErrWire {
		t.Error("it goes on behind its end", e)
	}
}

// P4.2: a reader has a copy of the bytes.
func TestReadCopies(t *testing.T) {
	b := []byte("\x03abc\x05")
	r := wire.Read(b)
	copy(b, "\x01zzzzzzz")
	if s, e := r.Text(9); s != "abc" || e != api.OK {
		t.Error(s, e)
	}
	if n, e := r.Number(9); n != 5 || e != api.OK {
		t.Error(n, e)
	}
}

// P4.2: no reader, and a zero one: ErrNil ahead of all other errors.
func TestReaderOfNone(t *testing.T) {
	var none *wire.Reader
	for _, r := range []*wire.Reader{none, {}} {
		for range 2 {
			n, e := r.Number(9)
			m, f := r.Number(-1)
			is, g := r.Truth()
			hash, h := r.Hash()
			s, i := r.Text(9)
			u, j := r.Text(-1)
			for at, e := range []api.Errno{e, f, g, h, i, j, r.End()} {
				if e != api.ErrNil {
					t.Error(at, e)
				}
			}
			if n != 0 || m != 0 || is || hash != (api.Hash{}) || s != "" || u != "" || r.Left() != 0 {
				t.Error("something is read of none")
			}
		}
	}
}

// model reads as the chapter's words say, by the library: what is left, and whether it refused something.
type model struct {
	left    []byte
	refused bool
}

// number is the next number, and how many bytes it has; -1, if there is none.
func (m *model) number(most int64) (int64, int) {
	for _, size := range []int{1, 3, 5, 9} {
		if size > len(m.left) {
			break
		}
		var n uint64
		for _, b := range m.left[min(1, size-1):size] {
			n = n<<8 | uint64(b)
		}
		if n <= maxNumber && int64(n) <= most && bytes.Equal(plainNumber(int64(n)), m.left[:size]) {
			return int64(n), size
		}
	}
	return 0, -1
}

// take takes so many bytes off, or refuses for good.
func (m *model) take(n int) ([]byte, api.Errno) {
	if m.refused || n < 0 || n > len(m.left) {
		m.refused = true
		return nil, api.ErrWire
	}
	taken := m.left[:n]
	m.left = m.left[n:]
	return taken, api.OK
}

// step does one call on both, and tells whether they answer the same.
func (m *model) step(r *wire.Reader, pick int, most int64) bool {
	switch pick {
	case 0:
		n, e := r.Number(most)
		if most < 0 && !m.refused {
			return n == 0 && e == api.ErrArg
		}
		want, size := m.number(most)
		if _, f := m.take(size); f != api.OK {
			return n == 0 && e == f
		}
		return n == want && e == api.OK
	case 1:
		is, e := r.Truth()
		if !m.refused && len(m.left) > 0 && m.left[0] > 1 {
			m.refused = true
		}
		b, f := m.take(1)
		return e == f && is == (len(b) == 1 && b[0] == 1)
	case 2:
		h, e := r.Hash()
		b, f := m.take(32)
		var want api.Hash
		copy(want[:], b)
		return e == f && h == want
	case 3:
		s, e := r.Text(int(most))
		if most < 0 && !m.refused {
			return s == "" && e == api.ErrArg
		}
		n, size := m.number(most)
		if size < 0 || n > int64(len(m.left)-size) {
			m.refused = true
			return s == "" && e == api.ErrWire
		}
		b, f := m.take(size + int(n))
		if f != api.OK {
			return s == "" && e == f
		}
		return s == string(b[size:]) && e == api.OK
	}
	e := r.End()
	m.refused = m.refused || len(m.left) > 0
	return (e == api.ErrWire) == m.refused && (e == api.OK) != m.refused
}

// P4.2: whatever is read off whatever bytes, held against the model.
func TestReadAnything(t *testing.T) {
	random := rand.New(rand.NewSource(4))
	for round := range 40000 {
		b := make([]byte, random.Intn(80))
		for i := range b {
			b[i] = []byte{0, 1, 1, 2, 31, 252, 253, 254, 255, byte(random.Intn(256))}[random.Intn(10)]
		}
		r, m := wire.Read(b), &model{left: b}
		for range 12 {
			pick := random.Intn(21) % 5
			most := []int64{-1, 0, 1, 40, 253, 70000, maxNumber, math.MaxInt64, 5, 300}[random.Intn(10)]
			if !m.step(r, pick, most) || r.Left() != len(m.left) {
				t.Fatalf("round %d: %x, call %d by %d, left %d", round, b, pick, most, r.Left())
			}
		}
	}
}

// P4.4: what was laid is read, in order, by the same calls, and nothing is left.
func TestThereAndBack(t *testing.T) {
	random := rand.New(rand.NewSource(5))
	for range 2000 {
		w := wire.New()
		var reads []func(r *wire.Reader) bool
		for range random.Intn(12) {
			n := random.Int63n(maxNumber+1) >> random.Intn(63)
			h, is, s := hashOf(random.Uint32()), random.Intn(2) == 1, string(bytesOf(random.Intn(300), random.Uint32()))
			switch random.Intn(4) {
			case 0:
				w.Number(n, n/2)
				reads = append(reads,
					func(r *wire.Reader) bool { x, e := r.Number(n); return x == n && e == api.OK },
					func(r *wire.Reader) bool { x, e := r.Number(maxNumber); return x == n/2 && e == api.OK })
			case 1:
				w.Truth(is)
				reads = append(reads, func(r *wire.Reader) bool { x, e := r.Truth(); return x == is && e == api.OK })
			case 2:
				w.Hash(h)
				reads = append(reads, func(r *wire.Reader) bool { x, e := r.Hash(); return x == h && e == api.OK })
			case 3:
				w.Text(s)
				reads = append(reads, func(r *wire.Reader) bool { x, e := r.Text(len(s)); return x == s && e == api.OK })
			}
		}
		r := wire.Read(w.All())
		for i, read := range reads {
			if !read(r) {
				t.Fatalf("%d of %x", i, w.All())
			}
		}
		if r.Left() != 0 || r.End() != api.OK {
			t.Fatalf("something is left of %x", w.All())
		}
	}
}

// P4.3: Frame, held against the library, about the bounds of its number, up to the most.
func TestFrame(t *testing.T) {
	for _, n := range []int{0, 1, 2, 100, 247, 248, 249, 250, 251, 252, 253, 1000, api.MaxFrame - 1, api.MaxFrame} {
		b := bytesOf(n, 6)
		if f, e := wire.Frame(b); !bytes.Equal(f, plainFrame(b)) || e != api.OK {
			t.Errorf("%d: %x %d", n, f, e)
		}
	}
	if f := framed(t, nil); !bytes.Equal(f, []byte{4, 0, 0, 0, 0}) {
		t.Errorf("%x", f)
	}
	if f := framed(t, []byte("123456789")); string(f) != "\x0d123456789\x83\x92\x06\xe3" {
		t.Errorf("%x", f)
	}
	for _, n := range []int{api.MaxFrame + 1, api.MaxFrame + 4, 1 << 20} {
		if f, e := wire.Frame(make([]byte, n)); f != nil || e != api.ErrLong {
			t.Error(n, len(f), e)
		}
	}
}

// P4.3, P4.4: Split tells what the first frame frames, whatever is behind it; bytes that lack are nothing.
func TestSplit(t *testing.T) {
	for _, n := range []int{0, 1, 2, 100, 247, 248, 249, 250, 300, api.MaxFrame - 1, api.MaxFrame} {
		b := bytesOf(n, 7)
		f := plainFrame(b)
		for _, behind := range [][]byte{nil, {0}, {255, 255}, f, bytesOf(50, 8)} {
			if body, used, e := wire.Split(slices.Concat(f, behind)); !bytes.Equal(body, b) || used != len(f) || e != api.OK {
				t.Fatal(n, len(behind), len(body), used, e)
			}
		}
		for cut := range f {
			if body, used, e := wire.Split(f[:cut]); body != nil || used != 0 || e != api.OK {
				t.Fatal(n, cut, len(body), used, e)
			}
		}
	}
}

// P4.3: numbers of which no frame has one are ErrFrame, also where bytes lack behind them; where bytes of the number lack, nothing is told yet.
func TestSplitNumbers(t *testing.T) {
	wrong := slices.Clone(otherForms)
	for _, x := range bounds {
		if x.n < 4 || x.n > api.MaxFrame+4 {
			wrong = append(wrong, x.text)
		}
	}
	for _, n := range []int64{2, 3, api.MaxFrame + 5, api.MaxFrame + 6, api.MaxFrame + 256} {
		wrong = append(wrong, hex.EncodeToString(plainNumber(n)))
	}
	for _, text := range wrong {
		b := unhex(t, text)
		for _, behind := range []int{0, 1, 4, 300, 70000} {
			if body, n, e := wire.Split(append(slices.Clone(b), make([]byte, behind)...)); body != nil || n != 0 || e != api.ErrFrame {
				t.Errorf("%s and %d: %x %d %d", text, behind, body, n, e)
			}
		}
		for cut := range b {
			if body, n, e := wire.Split(b[:cut]); body != nil || n != 0 || e != api.OK {
				t.Errorf("%s, %d of it: %x %d %d", text, cut, body, n, e)
			}
		}
	}
	for _, n := range []int64{4, 5, 252, 253, api.MaxFrame + 3, api.MaxFrame + 4} {
		if body, used, e := wire.Split(plainNumber(n)); body != nil || used != 0 || e != api.OK {
			t.Errorf("%d: %x %d %d", n, body, used, e)
		}
		// Of bytes of 0 alone only those of an empty frame are sealed.
		want, size := api.ErrSum, 0
		if n == 4 {
			want, size = api.OK, 5
		}
		if body, used, e := wire.Split(append(plainNumber(n), make([]byte, n)...)); len(body) != 0 || used != size || e != want {
			t.Errorf("%d: %x %d %d", n, body, used, e)
		}
	}
}

// P4.3: sealed bytes of which one bit is turned are ErrSum.
func TestSplitTurned(t *testing.T) {
	for _, n := range []int{0, 1, 60, 260} {
		f := plainFrame(bytesOf(n, 9))
		ahead := len(plainNumber(int64(n + 4)))
		for bit := 8 * ahead; bit < 8*len(f); bit++ {
			b := append(slices.Clone(f), f...)
			b[bit/8] ^= 1 << (bit % 8)
			if body, used, e := wire.Split(b); body != nil || used != 0 || e != api.ErrSum {
				t.Fatal(n, bit, len(body), used, e)
			}
			if body, used, e := wire.Split(b[:len(f)-1]); body != nil || used != 0 || e != api.OK {
				t.Fatal("cut", n, bit, len(body), used, e)
			}
		}
	}
}

// P4.3: the chapter's rows.
func TestSplitExamples(t *testing.T) {
	rows := []struct {
		b []byte
		e api.Errno
	}{{nil, api.OK}, {[]byte{}, api.OK}, {[]byte{3}, api.ErrFrame}, {[]byte{5}, api.OK}}
	for _, x := range rows {
		if body, n, e := wire.Split(x.b); body != nil || n != 0 || e != x.e {
			t.Error(x.b, body, n, e)
		}
	}
}

// piece is what Frames tells at a step.
type piece struct {
	end  int
	body string
}

// pieces goes over a stream's frames, at most so many.
func pieces(frames func(func(int, []byte) bool), most int) []piece {
	var l []piece
	if most == 0 {
		return l
	}
	for end, body := range frames {
		l = append(l, piece{end, string(body)})
		clear(body)
		if len(l) == most {
			break
		}
	}
	return l
}

// stream makes a stream of frames of so many bytes, and what is to be told of it.
func stream(t *testing.T, sizes ...int) ([]byte, []piece) {
	t.Helper()
	var all []byte
	var want []piece
	for i, n := range sizes {
		b := bytesOf(n, uint32(i))
		all = append(all, framed(t, b)...)
		want = append(want, piece{len(all), string(b)})
	}
	return all, want
}

// P4.3: Frames of a stream that is cut anywhere: those frames that are whole.
func TestFramesCut(t *testing.T) {
	all, want := stream(t, 0, 1, 70, 0, 260, 3)
	for cut := range len(all) + 1 {
		var whole []piece
		for _, x := range want {
			if x.end <= cut {
				whole = append(whole, x)
			}
		}
		if is := pieces(wire.Frames(all[:cut]), -1); !slices.Equal(is, whole) {
			t.Fatal(cut, len(is))
		}
	}
	if wire.Frames(nil) == nil || pieces(wire.Frames(nil), -1) != nil || pieces(wire.Frames([]byte{}), -1) != nil {
		t.Error("frames of nothing")
	}
}

// P4.3: Frames ends at the first frame that is wrong, whatever is behind it.
func TestFramesWrong(t *testing.T) {
	all, want := stream(t, 5, 0, 300, 9)
	for place := range len(want) + 1 {
		at := 0
		if place > 0 {
			at = want[place-1].end
		}
		for _, b := range [][]byte{{0}, {3}, {253, 0, 9}, {254, 0, 1, 0, 0}, {255, 128, 0, 0, 0, 0, 0, 0, 0}, {4, 0, 0, 0, 1}, {5, 1, 0, 0, 0, 0}} {
			if is := pieces(wire.Frames(slices.Concat(all[:at], b, all[at:])), -1); !slices.Equal(is, want[:place]) {
				t.Error(place, b, len(is))
			}
		}
	}
	for bit := range 8 * len(all) {
		b := slices.Clone(all)
		b[bit/8] ^= 1 << (bit % 8)
		hit := slices.IndexFunc(want, func(x piece) bool { return bit/8 < x.end })
		if is := pieces(wire.Frames(b), -1); !slices.Equal(is, want[:hit]) {
			t.Fatal(bit, len(is))
		}
	}
}

// P4.3: Frames may be left at any time, and gone over again, also within itself.
func TestFramesAgain(t *testing.T) {
	all, want := stream(t, 4, 0, 300, 1, 20)
	frames := wire.Frames(all)
	for most := range len(want) + 1 {
		for range 2 {
			if is := pieces(frames, most); !slices.Equal(is, want[:most]) {
				t.Fatal(most, len(is))
			}
		}
	}
	n := 0
	for end, body := range frames {
		if is := pieces(frames, -1); !slices.Equal(is, want) || want[n] != (piece{end, string(body)}) {
			t.Fatal(n, len(is))
		}
		n++
	}
	if n != len(want) {
		t.Error(n)
	}
}

// P4.3: what goes wrong in a loop over frames is not hidden by them.
func TestFramesPanic(t *testing.T) {
	all, _ := stream(t, 4, 5)
	defer func() {
		if x := recover(); x != "mine" {
			t.Error(x)
		}
	}()
	for range wire.Frames(all) {
		panic("mine")
	}
	t.Error("it went on")
}

// P4.3: Frames goes over the bytes as they were when it was called.
func TestFramesCopies(t *testing.T) {
	all, want := stream(t, 4, 0, 30)
	frames := wire.Frames(all)
	clear(all)
	if is := pieces(frames, -1); !slices.Equal(is, want) {
		t.Error(len(is))
	}
}

// P4.3: a stream of very many frames, which are not gone over as their number by itself.
func TestFramesMany(t *testing.T) {
	one := framed(t, nil)
	all := bytes.Repeat(one, 200000)
	n := 0
	for end, body := range wire.Frames(all) {
		n++
		if end != n*len(one) || len(body) != 0 {
			t.Fatal(n, end, len(body))
		}
	}
	if n != 200000 {
		t.Error(n)
	}
}

// P4.1 to P4.3: what is handed in is not changed, spare room behind it included.
func TestNothingChanges(t *testing.T) {
	room := make([]byte, 0, 200)
	room = append(append(room, framed(t, []byte("one"))...), framed(t, []byte("two"))...)
	was := slices.Clone(room[:cap(room)])
	numbers := append(make([]int64, 0, 4), 5, 6)
	truths := append(make([]bool, 0, 4), true, true)
	hashes := append(make([]api.Hash, 0, 4), hashOf(1), hashOf(2))
	w := wire.New()
	w.Number(numbers...)
	w.Truth(truths...)
	w.Hash(hashes...)
	if !slices.Equal(numbers[:4], []int64{5, 6, 0, 0}) || !slices.Equal(truths[:4], []bool{true, true, false, false}) || !slices.Equal(hashes[:4], []api.Hash{hashOf(1), hashOf(2), {}, {}}) {
		t.Error("a list is changed")
	}
	r := wire.Read(room)
	r.Number(9)
	r.Text(90)
	frame, _ := wire.Frame(room)
	body, _, _ := wire.Split(room)
	pieces(wire.Frames(room), -1)
	clear(frame[:cap(frame)])
	clear(body[:cap(body)])
	_ = append(body, 1, 2, 3)
	if !bytes.Equal(room[:cap(room)], was) {
		t.Errorf("%x", room[:cap(room)])
	}
}

// P4.3: answers share nothing with each other.
func TestAnswersApart(t *testing.T) {
	f := framed(t, []byte("a body"))
	one, _, _ := wire.Split(f)
	two, _, _ := wire.Split(f)
	clear(one[:cap(one)])
	if string(two) != "a body" {
		t.Error("bodies share memory")
	}
	var bodies [][]byte
	for _, body := range wire.Frames(append(f, f...)) {
		bodies = append(bodies, body)
	}
	clear(bodies[0][:cap(bodies[0])])
	if string(bodies[1]) != "a body" {
		t.Error("bodies of a stream share memory")
	}
}

func BenchmarkRead(b *testing.B) {
	w := wire.New()
	for range 20 {
		w.Number(300)
		w.Text("some text")
	}
	all := w.All()
	b.ReportAllocs()
	for b.Loop() {
		r := wire.Read(all)
		for range 20 {
			r.Number(maxNumber)
			r.Text(99)
		}
	}
}
