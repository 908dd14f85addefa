package rollback_test

import (
	"math"
	"slices"
	"testing"

	"gauntlet/api"
	"gauntlet/code"
	"gauntlet/rollback"
)

// adds has the inputs of each player in that player's cell.
const adds = "load 0\nin 0\nadd\nstore 0\nload 1\nin 1\nadd\nstore 1\n"

// nines is won by nobody in the first frame where either does 9.
const nines = adds + "in 0\npush 9\nsame\nin 1\npush 9\nsame\nadd\nzero 17\nwin 2\n"

// forty is won by nobody in the first frame where the inputs of both are 40 in all.
const forty = adds + "load 0\nload 1\nadd\npush 40\nless\nzero 15\nhalt\nwin 2\n"

func game(t *testing.T, text string, limit int) api.Game {
	t.Helper()
	l, line, e := code.Parse(text)
	if e != api.OK {
		t.Fatalf("%q: line %d, %v", text, line, e)
	}
	return api.Game{Code: l, Cap: limit, Fuel: 100}
}

func session(t *testing.T, g api.Game, me int) *rollback.Session {
	t.Helper()
	s, e := rollback.New(g, 1, me)
	if s == nil || e != api.OK {
		t.Fatalf("New of Cap %d, %d: got %v, %v", g.Cap, me, s, e)
	}
	return s
}

// ahead is a session whose player has done so many times the same.
func ahead(t *testing.T, g api.Game, me, frames int, in uint16) *rollback.Session {
	t.Helper()
	s := session(t, g, me)
	for frame := range frames {
		local(t, s, in, frame)
	}
	return s
}

// local tells that Local is taken, as this frame.
func local(t *testing.T, s *rollback.Session, in uint16, want int) {
	t.Helper()
	if frame, e := s.Local(in); frame != want || e != api.OK {
		t.Fatalf("Local(%d): got %d, %v, want %d", in, frame, e, want)
	}
}

// all is all that a session answers where it is asked.
type all struct {
	now, sure    api.State
	steps, wrong int
	needs        int
}

func ask(s *rollback.Session) all {
	x := all{now: s.Now(), sure: s.Sure(), needs: s.Needs()}
	x.steps, x.wrong = s.Work()
	return x
}

// stays tells that nothing has changed that a call could tell.
func stays(t *testing.T, s *rollback.Session, was all) {
	t.Helper()
	if x := ask(s); x != was {
		t.Fatalf("got %v, want %v, as it was", x, was)
	}
}

// refuses tells that Local is refused, and that this changes nothing.
func refuses(t *testing.T, s *rollback.Session, want api.Errno) {
	t.Helper()
	was := ask(s)
	for _, in := range []uint16{0, 1, 9, 65535} {
		if frame, e := s.Local(in); frame != 0 || e != want {
			t.Fatalf("Local(%d): got %d, %v, want 0, %v", in, frame, e, want)
		}
		stays(t, s, was)
	}
}

// remote tells what Remote answers; what is refused changes nothing.
func remote(t *testing.T, s *rollback.Session, frame int, in uint16, want api.Errno) {
	t.Helper()
	was := ask(s)
	if e := s.Remote(frame, in); e != want {
		t.Fatalf("Remote(%d, %d): got %v, want %v", frame, in, e, want)
	}
	if want != api.OK {
		stays(t, s, was)
	}
}

// hears tells it all these inputs of the other one, from a frame on.
func hears(t *testing.T, s *rollback.Session, from int, in ...uint16) {
	t.Helper()
	for i, in := range in {
		remote(t, s, from+i, in, api.OK)
	}
}

// sums is a state of adds, by what this player and the other one did in all.
func sums(me, frame int, mine, theirs int32) api.State {
	s := api.State{Frame: frame, Seed: 1}
	s.Cells[me], s.Cells[1-me] = mine, theirs
	return s
}

func over(s api.State, winner int) api.State {
	s.Over, s.Winner = true, winner
	return s
}

// shows tells all that a session answers where it is asked.
func shows(t *testing.T, s *rollback.Session, now, sure api.State, steps, wrong, needs int) {
	t.Helper()
	if x, want := ask(s), (all{now, sure, steps, wrong, needs}); x != want {
		t.Fatalf("Now, Sure, Work, Needs:\ngot  %v\nwant %v", x, want)
	}
}

// P14.1

func TestNewOfWhatIsNoGame(t *testing.T) {
	halt := api.Ins{Op: api.OpHalt}
	for _, x := range []struct {
		l     []api.Ins
		limit int
		fuel  int
		want  api.Errno
	}{
		{nil, 0, 1, api.ErrArg}, {nil, -1, 1, api.ErrArg}, {nil, 601, 1, api.ErrArg},
		{nil, math.MinInt, 1, api.ErrArg}, {nil, math.MaxInt, 1, api.ErrArg}, {nil, 1<<32 + 1, 1, api.ErrArg},
		{nil, 1, 0, api.ErrArg}, {nil, 1, -1, api.ErrArg}, {nil, 1, 2001, api.ErrArg},
		{nil, 1, math.MinInt, api.ErrArg}, {nil, 1, math.MaxInt, api.ErrArg}, {nil, 1, 1<<32 + 1, api.ErrArg},
		{nil, 0, 0, api.ErrArg}, {[]api.Ins{halt}, 601, 2001, api.ErrArg},
		{slices.Repeat([]api.Ins{halt}, 257), 5, 9, api.ErrLong},
		{make([]api.Ins, 257), 0, 0, api.ErrLong},
		{[]api.Ins{{}}, 5, 9, api.ErrForm},
		{[]api.Ins{halt, {Op: 23}}, 5, 9, api.ErrForm},
		{[]api.Ins{halt, {Op: api.OpWin, Arg: 3}}, 0, 9, api.ErrForm},
		{[]api.Ins{{Op: api.OpJump, Arg: 2}}, 5, 0, api.ErrForm},
	} {
		g := api.Game{Code: x.l, Cap: x.limit, Fuel: x.fuel}
		for _, me := range []int{0, 1, -1, 2, math.MinInt, math.MaxInt} { // the game's error comes first
			if s, e := rollback.New(g, 7, me); s != nil || e != x.want {
				t.Errorf("New with %d instructions, Cap %d, Fuel %d, %d: got %v, %v, want nothing, %v", len(x.l), x.limit, x.fuel, me, s, e, x.want)
			}
		}
	}
	if s, e := rollback.New(api.Game{}, 0, 0); s != nil || e != api.ErrArg {
		t.Errorf("New of no game: got %v, %v", s, e)
	}
}

func TestNewOfWhoIsNoPlayer(t *testing.T) {
	for _, me := range []int{math.MinInt, -1 << 32, -256, -2, -1, 2, 3, 255, 256, 257, 1 << 16, 1 << 32, 1<<32 + 1, math.MaxInt - 1, math.MaxInt} {
		if s, e := rollback.New(game(t, adds, 5), 1, me); s != nil || e != api.ErrArg {
			t.Errorf("New of %d: got %v, %v, want nothing, %v", me, s, e, api.ErrArg)
		}
	}
}

func TestNew(t *testing.T) {
	halts := slices.Repeat([]api.Ins{{Op: api.OpHalt}}, 256)
	for _, g := range []api.Game{{Cap: 1, Fuel: 1}, {Cap: 600, Fuel: 2000}, {Code: halts, Cap: 2, Fuel: 2}, {Code: []api.Ins{}, Cap: 9, Fuel: 9}, game(t, nines, 25)} {
		for seed, want := range map[uint32]uint32{0: 1, 1: 1, 2: 2, 77: 77, 1 << 31: 1 << 31, math.MaxUint32: math.MaxUint32} {
			for me := range 2 {
				s, e := rollback.New(g, seed, me)
				if s == nil || e != api.OK {
					t.Fatalf("New of Cap %d, %d, %d: got %v, %v", g.Cap, seed, me, s, e)
				}
				first := api.State{Seed: want}
				shows(t, s, first, first, 0, 0, 0)
				local(t, s, 5, 0)
			}
		}
	}
}

// P14.2

func TestLocalDoesOneFrame(t *testing.T) {
	for me := range 2 {
		s, sum := session(t, game(t, adds, 600), me), int32(0)
		hears(t, s, 0, 7, 0, 65535)
		shows(t, s, sums(me, 0, 0, 0), sums(me, 0, 0, 0), 0, 0, 3)
		theirs := []int32{7, 7, 65542, 131077, 196612}
		for frame, in := range []uint16{3, 0, 65535, 65535, 1} {
			local(t, s, in, frame)
			sum += int32(in)
			now := sums(me, frame+1, sum, theirs[frame])
			sure := now
			if frame > 2 {
				sure = sums(me, 3, 65538, 65542)
			}
			shows(t, s, now, sure, frame+1, 0, 3)
		}
	}
}

func TestLocalOverByTheLastFrame(t *testing.T) {
	for me := range 2 {
		for limit := 1; limit <= 8; limit++ { // all of it guessed; at 8 it is too far ahead, too
			s := ahead(t, game(t, adds, limit), me, limit, 2)
			shows(t, s, over(sums(me, limit, int32(2*limit), 0), me), sums(me, 0, 0, 0), limit, 0, 0)
			refuses(t, s, api.ErrOver)
		}
		for _, limit := range []int{1, 2, 9, 25, 600} { // all of it known
			s := session(t, game(t, adds, limit), me)
			for frame := range limit {
				remote(t, s, frame, 3, api.OK)
				local(t, s, 2, frame)
			}
			last := over(sums(me, limit, int32(2*limit), int32(3*limit)), 1-me)
			shows(t, s, last, last, limit, 0, limit)
			refuses(t, s, api.ErrOver)
		}
	}
}

func TestLocalOverByWin(t *testing.T) {
	for me := range 2 {
		g := game(t, nines, 50)
		s := ahead(t, g, me, 3, 1)
		local(t, s, 9, 3) // what this player does
		shows(t, s, over(sums(me, 4, 12, 0), 2), sums(me, 0, 0, 0), 4, 0, 0)
		refuses(t, s, api.ErrOver)
		hears(t, s, 0, 0, 0, 0, 0)
		shows(t, s, over(sums(me, 4, 12, 0), 2), over(sums(me, 4, 12, 0), 2), 4, 0, 4)
		refuses(t, s, api.ErrOver)

		s = session(t, g, me)
		remote(t, s, 1, 9, api.OK) // what is known of the other one
		local(t, s, 1, 0)
		local(t, s, 1, 1)
		shows(t, s, over(sums(me, 2, 2, 9), 2), sums(me, 0, 0, 0), 2, 0, 0)
		refuses(t, s, api.ErrOver)
		remote(t, s, 0, 0, api.OK)
		shows(t, s, over(sums(me, 2, 2, 9), 2), over(sums(me, 2, 2, 9), 2), 2, 0, 2)
		refuses(t, s, api.ErrOver)
	}
}

func TestLocalOverByAGuess(t *testing.T) {
	for me := range 2 {
		s := session(t, game(t, forty, 50), me)
		remote(t, s, 0, 20, api.OK)
		local(t, s, 0, 0)
		local(t, s, 0, 1) // guessed as 20
		shows(t, s, over(sums(me, 2, 0, 40), 2), sums(me, 1, 0, 20), 2, 0, 1)
		refuses(t, s, api.ErrOver)
		remote(t, s, 1, 19, api.OK)
		shows(t, s, sums(me, 2, 0, 39), sums(me, 2, 0, 39), 3, 1, 2)
		local(t, s, 0, 2)
		refuses(t, s, api.ErrOver)
	}
}

// Where it is over and too far ahead, it is over.
func TestLocalOverAndTooFarAhead(t *testing.T) {
	for me := range 2 {
		s := ahead(t, game(t, forty, 50), me, 8, 0)
		refuses(t, s, api.ErrWindow)
		remote(t, s, 3, 10, api.OK)
		shows(t, s, over(sums(me, 7, 0, 40), 2), sums(me, 0, 0, 0), 12, 1, 0)
		refuses(t, s, api.ErrOver)
		remote(t, s, 5, 0, api.OK)
		shows(t, s, sums(me, 8, 0, 20), sums(me, 0, 0, 0), 15, 2, 0)
		refuses(t, s, api.ErrWindow)
	}
}

// With so many known of the other one, just eight more can be done.
func TestLocalAhead(t *testing.T) {
	for me := range 2 {
		for known := range 20 {
			s := session(t, game(t, adds, 600), me)
			for frame := range known {
				remote(t, s, frame, 1, api.OK)
			}
			for frame := range known + 8 {
				local(t, s, 1, frame)
			}
			guessed := int32(known + 8)
			if known == 0 {
				guessed = 0
			}
			for range 3 { // refused once, it stays as far ahead as it was
				refuses(t, s, api.ErrWindow)
				shows(t, s, sums(me, known+8, int32(known+8), guessed), sums(me, known, int32(known), int32(known)), known+8, 0, known)
			}
			remote(t, s, known+1, 1, api.OK) // behind a gap
			refuses(t, s, api.ErrWindow)
			remote(t, s, known, 1, api.OK) // which leaves room for two
			local(t, s, 1, known+8)
			local(t, s, 1, known+9)
			refuses(t, s, api.ErrWindow)
		}
	}
}

// One who is behind the other one is never too far ahead.
func TestLocalBehind(t *testing.T) {
	s := session(t, game(t, adds, 600), 0)
	for frame := range 25 {
		remote(t, s, frame, 2, api.OK)
	}
	for frame := range 25 {
		local(t, s, 1, frame)
		state := sums(0, frame+1, int32(frame+1), int32(2*frame+2))
		shows(t, s, state, state, frame+1, 0, 25)
	}
}

// A frame that fails does nothing, and is a frame all the same.
func TestFramesThatFail(t *testing.T) {
	for _, text := range []string{adds + "in 1\nzero 11\ndrop\n", adds + "in 1\nzero 11\njump 10\n"} {
		s := ahead(t, game(t, text, 50), 0, 3, 1)
		shows(t, s, sums(0, 3, 3, 0), sums(0, 0, 0, 0), 3, 0, 0)
		remote(t, s, 1, 5, api.OK)
		shows(t, s, sums(0, 3, 1, 0), sums(0, 0, 0, 0), 5, 1, 0)
		remote(t, s, 2, 0, api.OK)
		shows(t, s, sums(0, 3, 2, 0), sums(0, 0, 0, 0), 6, 2, 0)
		remote(t, s, 0, 0, api.OK)
		shows(t, s, sums(0, 3, 2, 0), sums(0, 3, 2, 0), 6, 2, 3)
		local(t, s, 1, 3)
		shows(t, s, sums(0, 4, 3, 0), sums(0, 3, 2, 0), 7, 2, 3)
	}
}
