package rollback_test

import (
	"slices"
	"testing"

	"gauntlet/api"
	"gauntlet/rollback"
)

// P14.5: of a nil Session

// nothing tells that nothing can happen to a session.
func nothing(t *testing.T, s *rollback.Session) {
	t.Helper()
	for range 2 {
		refuses(t, s, api.ErrArg)
		for _, frame := range append([]int{0, 1, 8, 24, 25, 599}, farFrames...) {
			remote(t, s, frame, 0, api.ErrArg)
			remote(t, s, frame, 5, api.ErrArg)
		}
		shows(t, s, api.State{}, api.State{}, 0, 0, 0)
	}
}

func TestNilSession(t *testing.T) {
	nothing(t, nil)
}

// One that New did not make is like none.
func TestSessionWithoutNew(t *testing.T) {
	nothing(t, &rollback.Session{})
}

// W6 and W7: what is handed in, and what is answered

func TestGamesStayAsTheyWere(t *testing.T) {
	mark := api.Ins{Op: 77, Arg: 78}
	for _, text := range []string{"", adds, nines} {
		g := game(t, text, 9)
		kept := slices.Clone(g.Code)
		roomy := append(slices.Clone(kept), slices.Repeat([]api.Ins{mark}, 8)...)
		g.Code = roomy[:len(kept)]
		s := ahead(t, g, 0, 3, 1)
		remote(t, s, 1, 5, api.OK)
		if !slices.Equal(roomy[:len(kept)], kept) || !slices.Equal(roomy[len(kept):], slices.Repeat([]api.Ins{mark}, 8)) {
			t.Errorf("what was handed in is another one: %v", roomy)
		}
	}
}

// A game that is changed behind New changes nothing of the session.
func TestGamesAreNotKept(t *testing.T) {
	g := game(t, nines, 9)
	s, p := session(t, g, 0), newPlain(game(t, nines, 9), 1, 0)
	for i := range g.Code {
		g.Code[i] = api.Ins{Op: api.OpWin, Arg: 1}
	}
	g.Cap, g.Fuel = 1, 1
	for _, x := range []call{{local: true, in: 1}, {local: true, in: 2}, {frame: 0, in: 3}, {local: true, in: 3}, {frame: 8, in: 4}, {frame: 2, in: 9}, {frame: 1, in: 0}} {
		p.both(t, s, x)
		p.answers(t, s)
	}
}

// An answer stays what it is, and what is done to it goes nowhere.
func TestAnswersStay(t *testing.T) {
	s := ahead(t, game(t, adds, 50), 0, 2, 1)
	now, sure := s.Now(), s.Sure()
	was := ask(s)
	changed := now
	changed.Cells[0], changed.Frame, changed.Over = 77, 7, true
	stays(t, s, was)
	remote(t, s, 0, 5, api.OK)
	local(t, s, 1, 2)
	if now != sums(0, 2, 2, 0) || sure != sums(0, 0, 0, 0) || changed.Cells[0] != 77 {
		t.Errorf("answers became %v, %v", now, sure)
	}
}

// The same calls have the same answers.
func TestTwins(t *testing.T) {
	d := drawn(55)
	for range 60 {
		g := d.game()
		p := newPlain(g, 1, 0)
		first, second := session(t, g, 0), session(t, g, 0)
		for range 60 {
			x := d.call(p)
			p.both(t, first, x)
			if x.local {
				second.Local(x.in)
			} else {
				second.Remote(x.frame, x.in)
			}
			stays(t, second, ask(first))
		}
	}
}
