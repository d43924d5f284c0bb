package commit

import (
	"tallystick/api"
	"tallystick/money"
)

// sides are two: who opened the channel, and the other one.
const sides = 2

// refused refuses where one of some truths holds that may not.
func refused(truths ...bool) api.Errno {
	for _, holds := range truths {
		if holds {
			return api.ErrArg
		}
	}
	return api.OK
}

// pendsMayBe asks whether each of some payments under way may be, and all of them beside each other.
func pendsMayBe(l []api.Pend) bool {
	// How many there are is asked ahead of all else, so that no long list is gone through.
	if len(l) > sides*api.MaxHtlcs {
		return false
	}
	var many [sides]int
	met := map[holder]int{}
	for _, p := range l {
		if outside(p.From, 0, sides-1) || outside(p.ID, 0, api.MaxNumber) || outside(p.Expiry, 1, api.MaxNumber) || p.Amount <= 0 {
			return false
		}
		many[p.From]++
		met[pending(p)]++
	}
	return len(met) == len(l) && many[0] <= api.MaxHtlcs && many[1] <= api.MaxHtlcs
}

// allOf are all amounts of a state.
func allOf(s api.Shares) []int64 {
	amounts := s.Amounts[:]
	for _, p := range s.Pends {
		amounts = append(amounts, p.Amount)
	}
	return amounts
}

// makes asks whether amounts are such, and make a sum.
func makes(sum int64, amounts ...int64) bool {
	all, e := money.Add(amounts...)
	return e == api.OK && all == sum
}

// outside asks whether a number is below the least or above the most that may be.
func outside[N int | int64](n, least, most N) bool { return n < least || n > most }
