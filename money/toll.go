package money

import (
	"iter"
	"math/bits"

	"tallystick/api"
)

// millionths are as many as make a whole; a rate is none of more.
const millionths = 1000000

// toll is a fee under way: the amount of which it is taken stands beside it.
type toll struct {
	api.Fee
	amount int64
}

func (t toll) mayNotBe() bool {
	return outside(0, api.MaxAmount, t.Base, t.amount) || outside(0, millionths, t.Rate)
}

func (t toll) share() int64 { return sharesBy(t.Rate)(t.amount) }

// sharesBy tells amounts' shares by a rate. A product has up to 70 bits, so it is kept as two words till it is divided; the high one is far below a million, so the answer fits into one.
func sharesBy(rate int64) func(amount int64) int64 {
	return func(amount int64) int64 {
		high, low := bits.Mul64(uint64(amount), uint64(rate))
		share, _ := bits.Div64(high, low, millionths)
		return int64(share)
	}
}

// heaps goes over the two heaps of equal parts, the greater parts' one ahead: how many there are, and how much each is. Of what may not be there are none.
func heaps(amount int64, many int) iter.Seq2[int, int64] {
	return func(yield func(int, int64) bool) {
		if outside(0, api.MaxAmount, amount) || outside(1, maxParts, many) {
			return
		}
		each, more := amount/int64(many), int(amount%int64(many))
		if yield(more, each+1) {
			yield(many-more, each)
		}
	}
}

// outside asks whether one of some numbers is below the least or above the most that may be.
func outside[N int | int64](least, most N, l ...N) bool {
	for _, n := range l {
		if n < least || n > most {
			return true
		}
	}
	return false
}
