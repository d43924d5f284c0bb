package wire

import (
	"math"

	"tallystick/api"
)

const (
	// maxNumber is the greatest number that has bytes.
	maxNumber = 1 << 62
	// firstMark is the least byte that is no number by itself, but tells that two bytes, four or eight are one.
	firstMark = 253
	// sumBytes are as many as lie behind sealed bytes (layer 3).
	sumBytes = 4
)

// ending is how what was tried ended. What can't be read gives up by a panic of one.
type ending int

const (
	whole ending = iota
	lacking
	wrong
)

// tried lets something be read, and tells how that ended.
func tried(read func()) (how ending) {
	defer func() {
		switch x := recover().(type) {
		case nil:
		case ending:
			how = x
		default:
			// No call panics: what nobody thought of is not such as is read.
			how = wrong
		}
	}()
	read()
	return whole
}

// rest are the bytes off which nothing was taken yet.
type rest []byte

func (r *rest) take(n int64) []byte {
	if n > int64(len(*r)) {
		panic(lacking)
	}
	taken := (*r)[:n]
	*r = (*r)[n:]
	return taken
}

func (r *rest) number() int64 {
	mark := r.take(1)[0]
	if mark < firstMark {
		return int64(mark)
	}
	var n uint64
	for _, b := range r.take(widthOf(mark)) {
		n = n<<8 | uint64(b)
	}
	if n > maxNumber || markOf(n) != mark {
		panic(wrong)
	}
	return int64(n)
}

func (r *rest) numberUpTo(most int64) int64 {
	n := r.number()
	if n > most {
		panic(wrong)
	}
	return n
}

func (r *rest) truth() bool {
	b := r.take(1)[0]
	if b > 1 {
		panic(wrong)
	}
	return b == 1
}

func (r *rest) hash() api.Hash { return api.Hash(r.take(int64(len(api.Hash{})))) }

func (r *rest) text(most int64) string { return string(r.take(r.numberUpTo(most))) }

// ended asks that nothing is left, and so it is never false.
func (r *rest) ended() bool {
	if len(*r) > 0 {
		panic(wrong)
	}
	return true
}

// sealed takes what a frame frames, still sealed.
func (r *rest) sealed() []byte {
	n := r.numberUpTo(api.MaxFrame + sumBytes)
	if n < sumBytes {
		panic(wrong)
	}
	return r.take(n)
}

// part takes one off what a reader has left. It is taken off a second view of the bytes, so that what gives up in the midst has taken nothing.
func part[T any](r *Reader, take func(left *rest) T) (x T, e api.Errno) {
	if e = r.state(); e != api.OK {
		return x, e
	}
	left := r.rest
	if tried(func() { x = take(&left) }) != whole {
		r.refused = true
		return x, api.ErrWire
	}
	r.rest = left
	return x, api.OK
}

// lay puts things behind what a writer laid, each as the bytes that with lays.
func lay[T any](w *Writer, with func([]byte, T) []byte, l ...T) api.Errno {
	if !w.there() {
		return api.ErrNil
	}
	for _, x := range l {
		w.laid = with(w.laid, x)
	}
	return api.OK
}

func isNoNumber(n int64) bool { return n < 0 || n > maxNumber }

func withNumber(to []byte, n int64) []byte {
	mark := markOf(uint64(n))
	to = append(to, mark)
	if mark < firstMark {
		return to
	}
	for place := widthOf(mark) - 1; place >= 0; place-- {
		to = append(to, byte(n>>(8*place)))
	}
	return to
}

func withTruth(to []byte, is bool) []byte {
	if is {
		return append(to, 1)
	}
	return append(to, 0)
}

func withHash(to []byte, h api.Hash) []byte { return append(to, h[:]...) }

func withText(to []byte, s string) []byte { return append(withNumber(to, int64(len(s))), s...) }

// markOf is a number's first byte. It hangs on the number alone, so that there is one form of each.
func markOf(n uint64) byte {
	switch {
	case n < firstMark:
		return byte(n)
	case n <= math.MaxUint16:
		return firstMark
	case n <= math.MaxUint32:
		return firstMark + 1
	}
	return firstMark + 2
}

// widthOf is how many bytes stand behind a mark: two, four or eight.
func widthOf(mark byte) int64 { return 2 << (mark - firstMark) }
