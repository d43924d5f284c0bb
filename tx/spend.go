package tx

import (
	"tallystick/api"
	"tallystick/hmac"
	"tallystick/secrets"
	"tallystick/sha"
)

// spend is an input under way: beside it stand the name of its own transaction, the output that it is to spend, where that stands, and where it is spent.
type spend struct {
	api.In
	own           api.Hash
	of            api.Out
	since, height int64
}

// rights tells by which ways each kind of output is spent, and what must hold then.
func rights() map[api.OutKind]map[api.WayKind]func(spend) bool {
	return map[api.OutKind]map[api.WayKind]func(spend) bool{
		api.OutPlain: {
			api.WayKey: spend.byOwner,
		},
		api.OutFund: {
			api.WayBoth: both(spend.byOwner, spend.alsoByOther),
		},
		api.OutLate: {
			api.WayLate:  both(spend.byOwner, spend.delayed),
			api.WayPoint: spend.byPoint,
		},
		api.OutOffered: {
			api.WayHash:  both(spend.byOther, spend.byHash),
			api.WayTime:  both(spend.byOwner, spend.expired),
			api.WayPoint: spend.byPoint,
		},
		api.OutTaken: {
			api.WayHash:  both(spend.byOwner, spend.byHash),
			api.WayTime:  both(spend.byOther, spend.expired),
			api.WayPoint: spend.byPoint,
		},
	}
}

func both(one, other func(spend) bool) func(spend) bool {
	return func(s spend) bool { return one(s) && other(s) }
}

func (s spend) tagged(tag, key api.Hash) bool { return hmac.Right(key[:], tag, s.own[:]) }

func (s spend) byOwner() bool { return s.tagged(s.Tag, s.of.Owner) }

func (s spend) byOther() bool { return s.tagged(s.Tag, s.of.Other) }

func (s spend) alsoByOther() bool { return s.tagged(s.Also, s.of.Other) }

func (s spend) byHash() bool { return sha.Sum(s.Secret[:]) == s.of.Hash }

func (s spend) byPoint() bool { return secrets.Point(s.Secret) == s.of.Point }

// delayed takes the difference: no height is below 0, so it fits, which a sum need not.
func (s spend) delayed() bool { return s.height-s.since >= s.of.Delay }

func (s spend) expired() bool { return s.height >= s.of.Expiry }
