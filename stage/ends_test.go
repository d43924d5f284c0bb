package stage_test

import (
	"math/rand"
	"testing"

	"tallystick/api"
	"tallystick/stage"
)

// doing is what happens between two ends, as each of them sees it: the sender, who offers the payment, and the receiver.
type doing struct {
	name             string
	sender, receiver api.Move
}

// doings are all: one's WeCommit is the other one's TheyCommit, one's TheyRevoke the other one's WeRevoke. What is no step of both is that it ends.
var doings = []doing{
	{"sender commits", api.MoveWeCommit, api.MoveTheyCommit},
	{"receiver revokes", api.MoveTheyRevoke, api.MoveWeRevoke},
	{"receiver commits", api.MoveTheyCommit, api.MoveWeCommit},
	{"sender revokes", api.MoveWeRevoke, api.MoveTheyRevoke},
	{"it ends", api.MoveNone, api.MoveNone},
}

// pair is where a payment is, as each end has it.
type pair struct{ sender, receiver api.Stage }

// do lets something happen at both ends; both must answer alike.
func (e pair) do(t *testing.T, d doing) pair {
	t.Helper()
	if d.sender == api.MoveNone {
		s, se := stage.End(e.sender)
		r, re := stage.End(e.receiver)
		if se != re {
			t.Fatal(d.name, e, se, re)
		}
		if se != api.OK {
			return e
		}
		return pair{s, r}
	}
	s, sOn, se := stage.Next(true, e.sender, d.sender)
	r, rOn, re := stage.Next(false, e.receiver, d.receiver)
	if se != api.OK || re != api.OK || sOn != rOn {
		t.Fatal(d.name, e, s, sOn, se, r, rOn, re)
	}
	return pair{s, r}
}

// inSenders and inReceivers tell in whose commitment it stands, as both ends must tell alike.
func (e pair) inSenders(t *testing.T) bool {
	t.Helper()
	return e.alike(t, stage.Stands(true, e.sender, true), stage.Stands(false, e.receiver, false))
}

func (e pair) inReceivers(t *testing.T) bool {
	t.Helper()
	return e.alike(t, stage.Stands(true, e.sender, false), stage.Stands(false, e.receiver, true))
}

func (e pair) alike(t *testing.T, sender, receiver bool) bool {
	t.Helper()
	if sender != receiver {
		t.Fatal("told otherwise by both ends", e, sender, receiver)
	}
	return sender
}

// life is what is watched while things happen: a payment comes into each commitment once, and leaves it once.
type life struct {
	pair
	senders, receivers       bool
	wasSenders, wasReceivers bool
}

func newLife() life { return life{pair: pair{1, 1}} }

// step lets something happen, and asks all that the promise says of that moment.
func (l life) step(t *testing.T, d doing) life {
	t.Helper()
	ahead := l
	l.pair = l.do(t, d)
	if l.sender != l.receiver || l.sender != ahead.sender && l.sender != ahead.sender+1 {
		t.Fatal(d.name, ahead.pair, l.pair)
	}
	l.senders, l.receivers = l.inSenders(t), l.inReceivers(t)
	if both := l.sender >= 4 && l.sender <= 6; both != (l.senders && l.receivers) {
		t.Fatal("in both commitments", l.pair, l.senders, l.receivers)
	}
	switch {
	case l.senders && !ahead.senders && (!ahead.receivers || ahead.wasSenders):
		t.Fatal("it comes into the sender's ahead of the receiver's, or again", ahead.pair, d.name)
	case l.receivers && !ahead.receivers && (ahead.senders || ahead.wasReceivers):
		t.Fatal("it comes into the receiver's behind the sender's, or again", ahead.pair, d.name)
	case !l.senders && ahead.senders && !ahead.receivers:
		t.Fatal("it leaves the sender's behind the receiver's", ahead.pair, d.name)
	case !l.receivers && ahead.receivers && (ahead.senders || !ahead.wasSenders):
		t.Fatal("it leaves the receiver's ahead of the sender's", ahead.pair, d.name)
	}
	l.wasSenders = l.wasSenders || l.senders
	l.wasReceivers = l.wasReceivers || l.receivers
	return l
}

// tried lets everything happen that may, in each order of some length.
func tried(t *testing.T, l life, length int) int {
	if length == 0 {
		return 1
	}
	many := 0
	for _, d := range doings {
		many += tried(t, l.step(t, d), length-1)
	}
	return many
}

// P9.4: all orders of up to 8 things that happen, from the beginning on.
func TestEachOrder(t *testing.T) {
	if many := tried(t, newLife(), 8); many != 390625 {
		t.Error("orders tried", many)
	}
}

// P9.4: from each moment at which a life of one may be, all orders of 3 things.
func TestEachMoment(t *testing.T) {
	way := []int{0, 1, 2, 3, 4, 2, 3, 0, 1}
	l := newLife()
	for _, which := range way {
		tried(t, l, 3)
		l = l.step(t, doings[which])
	}
	tried(t, l, 3)
	if l.sender != 10 || l.receiver != 10 || l.senders || l.receivers || !l.wasSenders || !l.wasReceivers {
		t.Error("the whole way", l)
	}
}

// P9.4: long orders, by picks: each comes to its end, and nothing happens behind it.
func TestPickedOrders(t *testing.T) {
	r := rand.New(rand.NewSource(9))
	for range 500 {
		l := newLife()
		for range 400 {
			l = l.step(t, doings[r.Intn(len(doings))])
		}
		if l.sender != 10 || !l.wasSenders || !l.wasReceivers {
			t.Fatal("not gone", l)
		}
	}
}

// P9.4: when each of both commitments has it, written out by what happened so far on the one way there is.
func TestOneWay(t *testing.T) {
	type at struct {
		which              int
		senders, receivers bool
	}
	way := []at{
		{0, false, true}, {1, false, true}, {2, true, true}, {3, true, true}, {4, true, true},
		{2, false, true}, {3, false, true}, {0, false, false}, {1, false, false},
	}
	l := newLife()
	for n, a := range way {
		// All that is not waited for does nothing.
		for other, d := range doings {
			if still := l.step(t, d); other != a.which && still.pair != l.pair {
				t.Error("at", l.pair, d.name, "leads to", still.pair)
			}
		}
		l = l.step(t, doings[a.which])
		if l.sender != api.Stage(n+2) || l.senders != a.senders || l.receivers != a.receivers {
			t.Error("behind", doings[a.which].name, l)
		}
	}
}

// P9.2, P9.4: behind a break at which both have it alike, who forgot that it was told is told anew; where nothing was forgotten, only what may be lost with a commitment is told anew.
func TestBreakAtBothEnds(t *testing.T) {
	for s := api.Stage(1); s <= 10; s++ {
		sender, receiver := stage.Break(true, s), stage.Break(false, s)
		adds, noEnds := stage.Anew(true, sender)
		noAdds, ends := stage.Anew(false, receiver)
		if noAdds || noEnds {
			t.Error("said by the wrong end", s)
		}
		if forgot := receiver == api.StageNone; forgot && !adds || forgot != (s == 1) {
			t.Error("it is offered", s, receiver, adds)
		}
		if forgot := sender != s; forgot && !ends || forgot != (s == 6) {
			t.Error("it ends", s, sender, ends)
		}
		if adds != (s <= 2) || ends != (s == 6 || s == 7) {
			t.Error("said anew", s, adds, ends)
		}
	}
}
