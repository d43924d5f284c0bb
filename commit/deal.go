package commit

import (
	"bytes"
	"cmp"

	"tallystick/api"
)

// deal is terms under way: the outputs that are made by them stand beside them.
type deal struct {
	api.Terms
	outs []output
}

// output is an output with its holder.
type output struct {
	api.Out
	of holder
}

// holder is what an output is of: a payment under way, by its side and its ID, or else what is left of a side's amount.
type holder struct {
	pending bool
	side    int
	id      int64
}

func pending(p api.Pend) holder { return holder{pending: true, side: p.From, id: p.ID} }

func left(side int) holder { return holder{side: side} }

// shared tells what outputs a state makes, in order.
func shared(t api.Terms, s api.Shares) (deal, api.Errno) {
	d := deal{Terms: t}
	e := Shares(t, s)
	if e != api.OK {
		goto wrong
	}
	d.layLeft(s.Amounts, d.Fee, func(side int) api.Out {
		if side != s.Owner {
			return d.plain(side)
		}
		return api.Out{Kind: api.OutLate, Owner: d.Keys[side], Point: s.Point, Delay: d.Delay}
	})
	for _, p := range s.Pends {
		d.lay(pending(p), p.Amount, d.pend(s, p))
	}
	e = d.settle()
	if e != api.OK {
		goto wrong
	}
	return d, api.OK
wrong:
	return deal{}, e
}

// layLeft lays what is left of both sides' amounts, of which side 0 bears the fee; what it is laid as is told by the side.
func (d *deal) layLeft(amounts [sides]int64, fee int64, as func(side int) api.Out) {
	amounts[0] -= fee
	for side := range sides {
		d.lay(left(side), amounts[side], as(side))
	}
}

// lay lays an output of an amount, if that is no dust.
func (d *deal) lay(of holder, amount int64, o api.Out) {
	if amount >= d.Dust {
		o.Amount = amount
		d.outs = append(d.outs, output{Out: o, of: of})
	}
}

// plain is what a side has at once.
func (d *deal) plain(side int) api.Out {
	return api.Out{Kind: api.OutPlain, Owner: d.Keys[side]}
}

// pend is what a payment under way is laid as.
func (d *deal) pend(s api.Shares, p api.Pend) api.Out {
	kind := api.OutTaken
	if p.From == s.Owner {
		kind = api.OutOffered
	}
	owner, other := d.Keys[s.Owner], d.Keys[1-s.Owner]
	return api.Out{Kind: kind, Owner: owner, Other: other, Point: s.Point, Hash: p.Hash, Delay: d.Delay, Expiry: p.Expiry}
}

// settle puts the outputs in order; it refuses if there is none.
func (d *deal) settle() api.Errno {
	if len(d.outs) == 0 {
		return api.ErrBare
	}
	rising(d.outs,
		func(a, b output) int { return cmp.Compare(a.Amount, b.Amount) },
		func(a, b output) int { return cmp.Compare(a.Kind, b.Kind) },
		func(a, b output) int { return cmp.Compare(a.Expiry, b.Expiry) },
		func(a, b output) int { return bytes.Compare(a.Hash[:], b.Hash[:]) },
		func(a, b output) int { return cmp.Compare(a.of.id, b.of.id) },
	)
	return api.OK
}

// places tells the place of a holder's output, -1 if it has none.
func (d *deal) places() func(holder) int {
	places := map[holder]int{}
	for at, o := range d.outs {
		places[o.of] = at
	}
	return func(of holder) int {
		if at, has := places[of]; has {
			return at
		}
		return -1
	}
}

// spent is a transaction that spends the fund output to the outputs, without tags.
func (d *deal) spent(number int64) api.Tx {
	t := api.Tx{Number: number, Ins: []api.In{{Name: d.Fund, Index: d.Index, Way: api.WayBoth}}}
	for _, o := range d.outs {
		t.Outs = append(t.Outs, o.Out)
	}
	return t
}
