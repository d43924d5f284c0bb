package commit

import (
	"bytes"
	"cmp"
	"iter"
	"slices"

	"tallystick/api"
	"tallystick/tx"
)

// rising puts things in order by the first of some closures that tells two of them apart; what none tells apart stays as it stands.
func rising[T any](l []T, by ...func(a, b T) int) {
	slices.SortStableFunc(l, func(a, b T) int {
		for _, compare := range by {
			if order := compare(a, b); order != 0 {
				return order
			}
		}
		return 0
	})
}

// inOrder is two keys, the lesser one ahead.
func inOrder(a, b api.Hash) (lesser, other api.Hash) {
	keys := []api.Hash{a, b}
	rising(keys, func(a, b api.Hash) int { return bytes.Compare(a[:], b[:]) })
	return keys[0], keys[1]
}

// inPlaces goes over claims in the order of the places of what they claim.
func inPlaces(l []api.Claim) iter.Seq[api.Claim] {
	l = slices.Clone(l)
	rising(l, func(a, b api.Claim) int { return cmp.Compare(a.Index, b.Index) })
	return func(yield func(api.Claim) bool) {
		for _, c := range l {
			if !yield(c) {
				return
			}
		}
	}
}

// tagsBy are a transaction's tags by some keys.
func tagsBy(t api.Tx, keys ...api.Hash) ([]api.Hash, api.Errno) {
	var tags []api.Hash
	for _, key := range keys {
		tag, e := tx.Tag(t, key)
		if e != api.OK {
			return nil, e
		}
		tags = append(tags, tag)
	}
	return tags, api.OK
}
