package tx

import (
	"bytes"
	"iter"

	"tallystick/api"
	"tallystick/money"
)

// insMayBe asks whether each of some inputs may be, and no two are of one output.
func insMayBe(l []api.In) bool {
	named := ways()
	for _, in := range l {
		parts, is := named[in.Way]
		bare := api.In{Name: in.Name, Index: in.Index, Way: in.Way}
		if !is || without(in, parts...) != bare || outside(in.Index, 0, api.MaxOuts-1) {
			return false
		}
	}
	return !oneTwice(l)
}

// oneTwice asks whether two inputs are of one output.
func oneTwice(l []api.In) (is bool) {
inputs:
	for at, in := range l {
		for _, ahead := range spends(l[:at], in.Name) {
			if ahead.Index == in.Index {
				is = true
				break inputs
			}
		}
	}
	return is
}

// spends goes over those of some inputs that name outputs of one transaction.
func spends(l []api.In, name api.Hash) iter.Seq2[int, api.In] {
	return func(yield func(int, api.In) bool) {
		for at, in := range l {
			if in.Name == name && !yield(at, in) {
				return
			}
		}
	}
}

// outsMayBe asks whether each of some outputs may be, and all together make an amount.
func outsMayBe(l []api.Out) bool {
	named := kinds()
	for _, o := range l {
		parts, is := named[o.Kind]
		bare := api.Out{Kind: o.Kind, Amount: o.Amount}
		if !is || without(o, parts...) != bare || !withinBounds(o) {
			return false
		}
	}
	_, e := total(l)
	return e == api.OK
}

// withinBounds asks about an output's amount that it is more than nothing (the sum tells whether it is too much), about its heights, and about the order of its keys. What its kind does not name is zero, and so within all bounds.
func withinBounds(o api.Out) bool {
	inOrder := o.Kind != api.OutFund || bytes.Compare(o.Owner[:], o.Other[:]) <= 0
	return inOrder && o.Amount > 0 && !outside(o.Delay, 0, api.MaxNumber) && !outside(o.Expiry, 0, api.MaxNumber)
}

// total is what outputs make together; it refuses what is no amount.
func total(l []api.Out) (int64, api.Errno) {
	amounts := make([]int64, 0, len(l))
	for _, o := range l {
		amounts = append(amounts, o.Amount)
	}
	return money.Add(amounts...)
}

// outside asks whether a number is below the least or above the most that may be.
func outside[N int | int64](n, least, most N) bool { return n < least || n > most }
