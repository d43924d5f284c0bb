package stage_test

import (
	"fmt"
	"iter"
	"math"
	"strings"
	"testing"

	"tallystick/api"
	"tallystick/stage"
)

// row is what the chapter says of one stage, of one's own and of the other's, written out.
type row struct {
	text                       string
	own, other                 api.Move
	ownInOurs, ownInTheirs     bool
	otherInOurs, otherInTheirs bool
}

// rows are of the stages 0 (which is none) to 10.
var rows = [11]row{
	{"", api.MoveNone, api.MoveNone, false, false, false, false},
	{"told", api.MoveWeCommit, api.MoveTheyCommit, false, false, false, false},
	{"sent", api.MoveTheyRevoke, api.MoveWeRevoke, false, true, true, false},
	{"near", api.MoveTheyCommit, api.MoveWeCommit, false, true, true, false},
	{"met", api.MoveWeRevoke, api.MoveTheyRevoke, true, true, true, true},
	{"held", api.MoveNone, api.MoveNone, true, true, true, true},
	{"ends", api.MoveTheyCommit, api.MoveWeCommit, true, true, true, true},
	{"left", api.MoveWeRevoke, api.MoveTheyRevoke, false, true, true, false},
	{"far", api.MoveWeCommit, api.MoveTheyCommit, false, true, true, false},
	{"last", api.MoveTheyRevoke, api.MoveWeRevoke, false, false, false, false},
	{"gone", api.MoveNone, api.MoveNone, false, false, false, false},
}

// noStages and noMoves are just outside, and far outside.
var (
	noStages = []api.Stage{0, -1, -2, -5, -10, 11, 12, 16, 100, 1 << 31, 1<<32 + 1, -1 << 32, math.MaxInt, math.MinInt, math.MinInt + 1}
	noMoves  = []api.Move{0, -1, -2, -4, 5, 6, 100, 1 << 31, 1<<32 + 1, -1 << 32, math.MaxInt, math.MinInt, math.MinInt + 1}
)

// of is a row's answer, of one's own or of the other's.
func of[T any](own bool, ofOwn, ofOther T) T {
	if own {
		return ofOwn
	}
	return ofOther
}

// sides goes over one's own and the other's.
func sides() []bool { return []bool{true, false} }

// P9.1, P9.2: the chapter's examples, and what its types are.
func TestExamples(t *testing.T) {
	nextIs(t, true, 1, api.MoveWeCommit, 2, true, api.OK)
	nextIs(t, true, 1, api.MoveTheyCommit, 1, false, api.OK)
	nextIs(t, true, 5, api.MoveWeCommit, 5, false, api.OK)
	endIs(t, 5, 6, api.OK)
	endIs(t, 4, 0, api.ErrStage)
	endIs(t, 11, 0, api.ErrArg)
	if stage.Stands(true, 2, true) {
		t.Error("one's own at 2 stands in one's own commitment")
	}
	if !stage.Stands(true, 2, false) {
		t.Error("one's own at 2 does not stand in the other end's commitment")
	}
	if s := stage.Break(false, 1); s != 0 {
		t.Error("the other's at 1 behind a break", s)
	}
	if api.ErrStage != 190 || api.MoveWeCommit != 1 || api.MoveTheyRevoke != 2 || api.MoveTheyCommit != 3 || api.MoveWeRevoke != 4 {
		t.Error("numbers of package api")
	}
}

func nextIs(t *testing.T, own bool, s api.Stage, m api.Move, then api.Stage, on bool, e api.Errno) {
	t.Helper()
	if gotThen, gotOn, gotE := stage.Next(own, s, m); gotThen != then || gotOn != on || gotE != e {
		t.Error("Next", own, s, m, "is", gotThen, gotOn, gotE, "not", then, on, e)
	}
}

func endIs(t *testing.T, s, then api.Stage, e api.Errno) {
	t.Helper()
	if gotThen, gotE := stage.End(s); gotThen != then || gotE != e {
		t.Error("End", s, "is", gotThen, gotE, "not", then, e)
	}
}

// P9.1: each stage with each step, one's own and the other's; it goes on by the one it waits for, and by no other.
func TestNext(t *testing.T) {
	for _, own := range sides() {
		for s := api.Stage(1); s <= 10; s++ {
			for m := api.Move(1); m <= 4; m++ {
				if of(own, rows[s].own, rows[s].other) == m {
					nextIs(t, own, s, m, s+1, true, api.OK)
				} else {
					nextIs(t, own, s, m, s, false, api.OK)
				}
			}
		}
	}
}

// P9.1: a stage that is none, a step that is none, and both; a stage that waits for nothing does not go on by a step that is none.
func TestNextRefuses(t *testing.T) {
	for _, own := range sides() {
		for _, s := range noStages {
			for m := api.Move(-1); m <= 5; m++ {
				nextIs(t, own, s, m, 0, false, api.ErrArg)
			}
			for _, m := range noMoves {
				nextIs(t, own, s, m, 0, false, api.ErrArg)
			}
		}
		for s := api.Stage(1); s <= 10; s++ {
			for _, m := range noMoves {
				nextIs(t, own, s, m, 0, false, api.ErrArg)
			}
		}
	}
}

// P9.1: by one step after another, and its end told, each stage is come to, and none behind the last.
func TestWholeWay(t *testing.T) {
	for _, own := range sides() {
		s := api.Stage(1)
		for s < 10 {
			then, on, e := api.Stage(0), false, api.OK
			if s == 5 {
				then, e = stage.End(s)
				on = true
			} else {
				then, on, e = stage.Next(own, s, stage.Waits(own, s))
			}
			if then != s+1 || !on || e != api.OK {
				t.Fatal(own, s, then, on, e)
			}
			s = then
		}
	}
}

// P9.1: it ends at 5; at no other stage does it, and what is no stage is refused ahead of that.
func TestEnd(t *testing.T) {
	for s := api.Stage(1); s <= 10; s++ {
		if s == 5 {
			endIs(t, s, 6, api.OK)
		} else {
			endIs(t, s, 0, api.ErrStage)
		}
	}
	for _, s := range noStages {
		endIs(t, s, 0, api.ErrArg)
	}
}

// P9.1: what each stage waits for; nothing at 5, at 10, and of what is no stage.
func TestWaits(t *testing.T) {
	for _, own := range sides() {
		for s := range api.Stage(11) {
			if m := stage.Waits(own, s); m != of(own, rows[s].own, rows[s].other) {
				t.Error("Waits", own, s, m)
			}
		}
		for _, s := range noStages {
			if m := stage.Waits(own, s); m != api.MoveNone {
				t.Error("Waits of no stage", own, s, m)
			}
		}
	}
}

// P9.2: in whose commitment each stage stands.
func TestStands(t *testing.T) {
	for _, own := range sides() {
		for s := range api.Stage(11) {
			r := rows[s]
			if got := stage.Stands(own, s, true); got != of(own, r.ownInOurs, r.otherInOurs) {
				t.Error("Stands in ours", own, s, got)
			}
			if got := stage.Stands(own, s, false); got != of(own, r.ownInTheirs, r.otherInTheirs) {
				t.Error("Stands in theirs", own, s, got)
			}
		}
		for _, s := range noStages {
			if stage.Stands(own, s, true) || stage.Stands(own, s, false) {
				t.Error("what is no stage stands", own, s)
			}
		}
	}
}

// P9.2: each stage behind a break: two of them are elsewhere then, all others stay.
func TestBreak(t *testing.T) {
	for _, own := range sides() {
		for s := api.Stage(1); s <= 10; s++ {
			want := s
			switch {
			case !own && s == 1:
				want = 0
			case own && s == 6:
				want = 5
			}
			if got := stage.Break(own, s); got != want {
				t.Error("Break", own, s, got)
			}
			// A second break does nothing more.
			if got := stage.Break(own, stage.Break(own, s)); got != want {
				t.Error("Break of Break", own, s, got)
			}
		}
		for _, s := range noStages {
			if got := stage.Break(own, s); got != api.StageNone {
				t.Error("Break of no stage", own, s, got)
			}
		}
	}
}

// P9.2: what is said anew of each stage.
func TestAnew(t *testing.T) {
	for _, own := range sides() {
		for s := range api.Stage(11) {
			wantAdds, wantEnds := own && (s == 1 || s == 2), !own && (s == 6 || s == 7)
			if adds, ends := stage.Anew(own, s); adds != wantAdds || ends != wantEnds {
				t.Error("Anew", own, s, adds, ends)
			}
		}
		for _, s := range noStages {
			if adds, ends := stage.Anew(own, s); adds || ends {
				t.Error("Anew of no stage", own, s, adds, ends)
			}
		}
	}
}

// point is what the path tells at once.
type point struct {
	s api.Stage
	m api.Move
}

// pathOf is what the rows' path is.
func pathOf(own bool) []point {
	var l []point
	for s := range api.Stage(11) {
		if m := of(own, rows[s].own, rows[s].other); m != api.MoveNone {
			l = append(l, point{s, m})
		}
	}
	return l
}

// gone goes over a path, and leaves it behind some points (0: it is gone over whole).
func gone(path iter.Seq2[api.Stage, api.Move], leave int) []point {
	var l []point
	for s, m := range path {
		l = append(l, point{s, m})
		if len(l) == leave {
			break
		}
	}
	return l
}

// P9.3: the path whole, left at each place, and gone over again, also in the midst of itself.
func TestPath(t *testing.T) {
	for _, own := range sides() {
		want := pathOf(own)
		if len(want) != 8 {
			t.Fatal("the rows have no path of 8")
		}
		path := stage.Path(own)
		for leave := range len(want) + 2 {
			upTo := len(want)
			if leave > 0 {
				upTo = min(upTo, leave)
			}
			for again := range 3 {
				if got := gone(path, leave); fmt.Sprint(got) != fmt.Sprint(want[:upTo]) {
					t.Error("Path", own, "left behind", leave, "time", again, "is", got)
				}
			}
		}
		var outer []point
		for s, m := range path {
			outer = append(outer, point{s, m})
			if got := gone(path, len(outer)); fmt.Sprint(got) != fmt.Sprint(outer) {
				t.Error("Path in the midst of itself", own, got)
			}
		}
		if fmt.Sprint(outer) != fmt.Sprint(want) {
			t.Error("Path gone over with another in its midst", own, outer)
		}
	}
}

// P9.3: who leaves the path is told nothing more, also where the leaving is a false answer, a return or a panic.
func TestPathLeft(t *testing.T) {
	for _, own := range sides() {
		for leave := 1; leave <= 8; leave++ {
			told := 0
			stage.Path(own)(func(api.Stage, api.Move) bool {
				told++
				return told < leave
			})
			if told != leave {
				t.Error("told", told, "left behind", leave)
			}
		}
		path := stage.Path(own)
		func() {
			defer func() { recover() }()
			for range path {
				panic("away")
			}
		}()
		if got := gone(path, 0); fmt.Sprint(got) != fmt.Sprint(pathOf(own)) {
			t.Error("Path behind a panic", own, got)
		}
	}
}

// P9.3: each stage has its text, and each text its stage; what is no stage has none.
func TestText(t *testing.T) {
	for s := api.Stage(1); s <= 10; s++ {
		text, e := stage.Text(s)
		if text != rows[s].text || e != api.OK {
			t.Error("Text", s, text, e)
		}
		if at, e := stage.Parse(rows[s].text); at != s || e != api.OK {
			t.Error("Parse", rows[s].text, at, e)
		}
	}
	for _, s := range noStages {
		if text, e := stage.Text(s); text != "" || e != api.ErrArg {
			t.Error("Text of no stage", s, text, e)
		}
	}
}

// P9.3: texts that are none: near each that is one, and far from all.
func TestParseRefuses(t *testing.T) {
	wrong := []string{"", " ", "\x00", "none", "stage", "first", "0", "1", "5", "10", "toldsent", "told sent", "told,sent", "\xff\xfe", "ße", strings.Repeat("held", 1<<18), strings.Repeat("\xff", 1<<20)}
	for _, r := range rows[1:] {
		for i := range r.text {
			bit := []byte(r.text)
			bit[i] ^= 1
			letter := []byte(r.text)
			letter[i] -= 'a' - 'A'
			wrong = append(wrong, string(bit), string(letter), r.text[:i], r.text[i+1:], r.text[:i]+r.text[i+1:], r.text[:i]+" "+r.text[i:])
		}
		wrong = append(wrong, strings.ToUpper(r.text), r.text+" ", r.text+"\n", r.text+"\x00", r.text+"\xff", r.text+"s", r.text+r.text)
	}
	for _, s := range wrong {
		if at, e := stage.Parse(s); at != api.StageNone || e != api.ErrArg {
			t.Errorf("Parse %.20q is %d %d", s, at, e)
		}
	}
}

// P9.1 to P9.3: what a call answers hangs on its arguments alone.
func TestNothingKept(t *testing.T) {
	all := func() string {
		var l []any
		for _, own := range sides() {
			for s := api.Stage(-2); s <= 12; s++ {
				for m := api.Move(-2); m <= 6; m++ {
					then, on, e := stage.Next(own, s, m)
					l = append(l, then, on, int(e))
				}
				end, e := stage.End(s)
				adds, ends := stage.Anew(own, s)
				text, te := stage.Text(s)
				l = append(l, end, int(e), adds, ends, text, int(te), stage.Break(own, s), stage.Waits(own, s), stage.Stands(own, s, true), stage.Stands(own, s, false))
			}
			l = append(l, gone(stage.Path(own), 0))
		}
		return fmt.Sprint(l...)
	}
	first := all()
	for range 3 {
		if all() != first {
			t.Fatal("another answer")
		}
	}
}
