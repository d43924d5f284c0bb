package tx

import (
	"tallystick/api"
	"tallystick/wire"
)

// part is something that a kind of output, a way of an input names, by where it stands there: a hash, or else a number.
type part[T any] struct {
	hash   func(*T) *api.Hash
	number func(*T) *int64
}

// kinds tells what each kind of output names, in the order of the bytes: all hashes ahead of all numbers.
func kinds() map[api.OutKind][]part[api.Out] {
	owner := part[api.Out]{hash: func(o *api.Out) *api.Hash { return &o.Owner }}
	other := part[api.Out]{hash: func(o *api.Out) *api.Hash { return &o.Other }}
	point := part[api.Out]{hash: func(o *api.Out) *api.Hash { return &o.Point }}
	hash := part[api.Out]{hash: func(o *api.Out) *api.Hash { return &o.Hash }}
	delay := part[api.Out]{number: func(o *api.Out) *int64 { return &o.Delay }}
	expiry := part[api.Out]{number: func(o *api.Out) *int64 { return &o.Expiry }}
	return map[api.OutKind][]part[api.Out]{
		api.OutPlain:   {owner},
		api.OutFund:    {owner, other},
		api.OutLate:    {owner, point, delay},
		api.OutOffered: {owner, other, point, hash, delay, expiry},
		api.OutTaken:   {owner, other, point, hash, delay, expiry},
	}
}

// ways tells what each way of an input names, in the order of the bytes.
func ways() map[api.WayKind][]part[api.In] {
	tag := part[api.In]{hash: func(in *api.In) *api.Hash { return &in.Tag }}
	also := part[api.In]{hash: func(in *api.In) *api.Hash { return &in.Also }}
	secret := part[api.In]{hash: func(in *api.In) *api.Hash { return &in.Secret }}
	return map[api.WayKind][]part[api.In]{
		api.WayBoth:  {tag, also},
		api.WayKey:   {tag},
		api.WayLate:  {tag},
		api.WayPoint: {secret},
		api.WayHash:  {tag, secret},
		api.WayTime:  {tag},
	}
}

// visit lets each of some parts of something be seen, by the one call or by the other.
func visit[T any](of *T, hash func(*api.Hash), number func(*int64), l ...part[T]) {
	for _, p := range l {
		if p.hash != nil {
			hash(p.hash(of))
		} else {
			number(p.number(of))
		}
	}
}

// without is something with noughts in the place of some of its parts.
func without[T any](x T, l ...part[T]) T {
	visit(&x, func(h *api.Hash) { *h = api.Hash{} }, func(n *int64) { *n = 0 }, l...)
	return x
}

// layParts lays some parts: the hashes among them, and behind these the numbers.
func layParts[T any](w *wire.Writer, of T, l ...part[T]) {
	var hashes []api.Hash
	var numbers []int64
	visit(&of, func(h *api.Hash) { hashes = append(hashes, *h) }, func(n *int64) { numbers = append(numbers, *n) }, l...)
	w.Hash(hashes...)
	w.Number(numbers...)
}

// mustReadParts is something with these parts read into it, in the order in which they are laid.
func mustReadParts[T any](r *wire.Reader, to T, l ...part[T]) T {
	visit(&to, func(h *api.Hash) { *h = must(r.Hash()) }, func(n *int64) { *n = mustNumber(r, api.MaxNumber) }, l...)
	return to
}
