package stage

import (
	"iter"

	"tallystick/api"
)

// The stages, by their texts.
const (
	atTold api.Stage = iota + api.StageFirst
	atSent
	atNear
	atMet
	atHeld
	atEnds
	atLeft
	atFar
	atLast
	atGone
)

// steps are what one's own, in the first row, and the other's, in the second one, wait for at each stage.
var steps = [2][atGone + 1]api.Move{
	{
		atTold: api.MoveWeCommit, atSent: api.MoveTheyRevoke, atNear: api.MoveTheyCommit, atMet: api.MoveWeRevoke,
		atEnds: api.MoveTheyCommit, atLeft: api.MoveWeRevoke, atFar: api.MoveWeCommit, atLast: api.MoveTheyRevoke,
	},
	{
		atTold: api.MoveTheyCommit, atSent: api.MoveWeRevoke, atNear: api.MoveWeCommit, atMet: api.MoveTheyRevoke,
		atEnds: api.MoveWeCommit, atLeft: api.MoveTheyRevoke, atFar: api.MoveTheyCommit, atLast: api.MoveWeRevoke,
	},
}

// stage has methods here, which a number of package api can't be given.
type stage struct{ api.Stage }

func (s stage) isNone() bool { return !s.among(atTold, atGone) }

func (s stage) among(least, most api.Stage) bool { return !outside(s.Stage, least, most) }

// payment is how far one is, and whose it is: this end's own, or the other's.
type payment struct {
	stage
	own bool
}

func seen(own bool, s api.Stage) payment { return payment{stage: stage{s}, own: own} }

func (p payment) waits() api.Move {
	if p.isNone() {
		return api.MoveNone
	}
	return waiting(p.own)(p.Stage)
}

// stands asks whether it stands in one's own commitment (ours), or in the other end's.
func (p payment) stands(ours bool) bool {
	// The commitment of the end that does not offer it has it first, and longest.
	if p.own != ours {
		return p.among(atSent, atFar)
	}
	return p.among(atMet, atEnds)
}

// waiting tells what stages wait for, of one's own or of the other's.
func waiting(own bool) func(api.Stage) api.Move {
	row := 1
	if own {
		row = 0
	}
	return func(s api.Stage) api.Move { return steps[row][s] }
}

// stages goes over all stages, rising.
func stages() iter.Seq[api.Stage] {
	return func(yield func(api.Stage) bool) {
		for s := atTold; s <= atGone && yield(s); s++ {
		}
	}
}

// word is a stage's text.
type word struct{ text string }

func texts() map[api.Stage]word {
	return map[api.Stage]word{
		atTold: {"told"}, atSent: {"sent"}, atNear: {"near"}, atMet: {"met"}, atHeld: {"held"},
		atEnds: {"ends"}, atLeft: {"left"}, atFar: {"far"}, atLast: {"last"}, atGone: {"gone"},
	}
}

// refused refuses where one of some truths holds that may not.
func refused(truths ...bool) api.Errno {
	for _, holds := range truths {
		if holds {
			return api.ErrArg
		}
	}
	return api.OK
}

// outside asks whether a number is below the least or above the most that may be.
func outside[N api.Stage | api.Move](n, least, most N) bool { return n < least || n > most }
