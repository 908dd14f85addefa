package duel_test

import (
	"math"
	"slices"
	"testing"

	"gauntlet/api"
	"gauntlet/code"
	"gauntlet/duel"
	"gauntlet/vm"
)

// adds has the inputs of each player in that player's cell.
const adds = "load 0\nin 0\nadd\nstore 0\nload 1\nin 1\nadd\nstore 1\n"

// winsBy is won by player 1 in the first frame where player 0 does 9.
const winsBy = adds + "in 0\npush 9\nsame\nzero 13\nwin 1\n"

// failsBy finds too few numbers where player 0 does 7, behind both sums.
const failsBy = adds + "rand\nstore 2\nin 0\npush 7\nsame\nzero 16\nadd\nwin 1\n"

func program(t *testing.T, text string) []api.Ins {
	t.Helper()
	l, line, e := code.Parse(text)
	if e != api.OK {
		t.Fatalf("%q: line %d, %v", text, line, e)
	}
	return l
}

func game(t *testing.T, text string, limit int) api.Game {
	t.Helper()
	return api.Game{Code: program(t, text), Cap: limit, Fuel: 100}
}

// state is one with a Seed of 1 and two cells that are not 0.
func state(frame int, first, second int32) api.State {
	return api.State{Frame: frame, Seed: 1, Cells: [16]int32{first, second}}
}

func over(s api.State, winner int) api.State {
	s.Over, s.Winner = true, winner
	return s
}

// goes tells that States answers just these, and Play the last of them.
func goes(t *testing.T, g api.Game, seed uint32, in []api.Pair, want ...api.State) {
	t.Helper()
	if l, e := duel.States(g, seed, in); !slices.Equal(l, want) || e != api.OK {
		t.Errorf("States(%v, %d, %v): got %v, %v, want %v", g, seed, in, l, e, want)
	}
	last := want[len(want)-1]
	if s, e := duel.Play(g, seed, in); s != last || e != api.OK {
		t.Errorf("Play(%v, %d, %v): got %v, %v, want %v", g, seed, in, s, e, last)
	}
}

func refuses(t *testing.T, g api.Game, seed uint32, in []api.Pair, want api.Errno) {
	t.Helper()
	if s, e := duel.Play(g, seed, in); s != (api.State{}) || e != want {
		t.Errorf("Play with %d instructions, Cap %d, Fuel %d, %d inputs: got %v, %v, want nothing, %v", len(g.Code), g.Cap, g.Fuel, len(in), s, e, want)
	}
	if l, e := duel.States(g, seed, in); len(l) != 0 || e != want {
		t.Errorf("States with %d instructions, Cap %d, Fuel %d, %d inputs: got %v, %v, want nothing, %v", len(g.Code), g.Cap, g.Fuel, len(in), l, e, want)
	}
}

// P11.1: what may not be handed in

func TestRefusesWhatIsNoGame(t *testing.T) {
	halt := api.Ins{Op: api.OpHalt}
	for _, x := range []struct {
		l     []api.Ins
		limit int
		fuel  int
		want  api.Errno
	}{
		{nil, 0, 1, api.ErrArg}, {nil, -1, 1, api.ErrArg}, {nil, 601, 1, api.ErrArg},
		{nil, math.MinInt, 1, api.ErrArg}, {nil, math.MaxInt, 1, api.ErrArg}, {nil, 1<<32 + 1, 1, api.ErrArg},
		{nil, 1, 0, api.ErrArg}, {nil, 1, -1, api.ErrArg}, {nil, 1, 2001, api.ErrArg},
		{nil, 1, math.MinInt, api.ErrArg}, {nil, 1, math.MaxInt, api.ErrArg}, {nil, 1, 1<<32 + 1, api.ErrArg},
		{nil, 0, 0, api.ErrArg}, {[]api.Ins{halt}, 601, 2001, api.ErrArg},
		{slices.Repeat([]api.Ins{halt}, 256), 5, 2001, api.ErrArg},
		{slices.Repeat([]api.Ins{halt}, 257), 5, 9, api.ErrLong},
		{make([]api.Ins, 257), 0, 0, api.ErrLong},
		{[]api.Ins{{}}, 5, 9, api.ErrForm},
		{[]api.Ins{halt, {Op: 23}}, 5, 9, api.ErrForm},
		{[]api.Ins{halt, {Op: api.OpWin, Arg: 3}}, 0, 9, api.ErrForm},
		{[]api.Ins{{Op: api.OpJump, Arg: 2}}, 5, 0, api.ErrForm},
	} {
		g := api.Game{Code: x.l, Cap: x.limit, Fuel: x.fuel}
		for _, in := range [][]api.Pair{nil, {}, {{1, 2}}, make([]api.Pair, 5), make([]api.Pair, 700)} {
			refuses(t, g, 0, in, x.want)
			refuses(t, g, 7, in, x.want)
		}
	}
	refuses(t, api.Game{}, 1, nil, api.ErrArg)
}

// P11.1: how far a game goes

func TestExample(t *testing.T) {
	g := game(t, "load 0\nin 0\nadd\nstore 0\n", 2)
	in := []api.Pair{{1, 0}, {1, 0}, {9, 9}}
	goes(t, g, 1, in, state(0, 0, 0), state(1, 1, 0), over(state(2, 2, 0), 0))
	s, _ := duel.Play(g, 1, in)
	if winner, why, over := duel.Result(s, g); winner != 0 || why != api.WhyCap || !over {
		t.Errorf("Result: %d, %d, %v", winner, why, over)
	}
}

func TestSeeds(t *testing.T) {
	g := game(t, adds, 3)
	for seed, want := range map[uint32]uint32{0: 1, 1: 1, 2: 2, 77: 77, 1 << 31: 1 << 31, math.MaxUint32: math.MaxUint32} {
		first, second := api.State{Seed: want}, state(1, 4, 5)
		second.Seed = want
		goes(t, g, seed, nil, first)
		goes(t, g, seed, []api.Pair{}, first)
		goes(t, g, seed, []api.Pair{{4, 5}}, first, second)
	}
}

// The seed goes from frame to frame as rand leaves it: these are the first numbers of xorshift by 13, 17, 5.
func TestTheSeedGoesOn(t *testing.T) {
	g := game(t, "rand\nstore 0\n", 9)
	want := []api.State{{Seed: 1}}
	for i, x := range []uint32{270369, 67634689, 2647435461, 307599695, 2398689233} {
		want = append(want, api.State{Frame: i + 1, Seed: x, Cells: [16]int32{int32(x % 65536)}})
	}
	goes(t, g, 0, make([]api.Pair, 5), want...)
	goes(t, g, 1, make([]api.Pair, 5), want...)
}

// counted is n inputs: the first player does 0, 1, 2 and so on, the second one 1 each time.
func counted(n int) []api.Pair {
	in := make([]api.Pair, n)
	for i := range in {
		in[i] = api.Pair{uint16(i), 1}
	}
	return in
}

// countedStates is what adds makes of counted, up to a cap.
func countedStates(n, limit int) []api.State {
	l := make([]api.State, min(n, limit)+1)
	for i := range l {
		l[i] = state(i, int32(i*(i-1)/2), int32(i))
	}
	if n < limit {
		return l
	}
	winner := 0
	switch { // in each frame (limit-1)/2 on an average for the first player, 1 for the second
	case limit < 3:
		winner = 1
	case limit == 3:
		winner = 2
	}
	l[limit] = over(l[limit], winner)
	return l
}

func TestHowManyInputs(t *testing.T) {
	for _, limit := range []int{1, 2, 3, 4, 5, 17, 599, 600} {
		g := game(t, adds, limit)
		for _, n := range []int{0, 1, 2, 3, 4, limit - 1, limit, limit + 1, 2 * limit, 601, 5000} {
			goes(t, g, 1, counted(n), countedStates(n, limit)...)
		}
	}
}

func TestInputsInTheirOrder(t *testing.T) {
	g := game(t, "load 0\nstore 1\nin 0\nstore 0\nload 2\nstore 3\nin 1\nstore 2\n", 9)
	want := []api.State{{Seed: 3}, {Seed: 3, Frame: 1}, {Seed: 3, Frame: 2}, {Seed: 3, Frame: 3}}
	want[1].Cells = [16]int32{5, 0, 65535, 0}
	want[2].Cells = [16]int32{65535, 5, 6, 65535}
	want[3].Cells = [16]int32{0, 65535, 7, 6}
	goes(t, g, 3, []api.Pair{{5, 65535}, {65535, 6}, {0, 7}}, want...)
}

func TestWonAheadOfTheEnd(t *testing.T) {
	g := game(t, winsBy, 6)
	for _, behind := range [][]api.Pair{nil, {{9, 0}}, {{1, 1}}, {{1, 1}, {9, 9}, {2, 2}, {3, 3}, {4, 4}, {5, 5}}, counted(700)} {
		goes(t, g, 1, append([]api.Pair{{9, 0}}, behind...), state(0, 0, 0), over(state(1, 9, 0), 1))
		goes(t, g, 1, append([]api.Pair{{3, 4}, {9, 0}}, behind...), state(0, 0, 0), state(1, 3, 4), over(state(2, 12, 4), 1))
	}
	// In the last frame win tells, not who has more; without it the cap does.
	in := []api.Pair{{1, 0}, {1, 0}, {1, 0}, {1, 0}, {1, 0}, {9, 0}}
	if s, e := duel.Play(g, 1, in); s != over(state(6, 14, 0), 1) || e != api.OK {
		t.Errorf("won in the last frame: %v, %v", s, e)
	}
	in[5] = api.Pair{8, 0}
	if s, e := duel.Play(g, 1, in); s != over(state(6, 13, 0), 0) || e != api.OK {
		t.Errorf("by the cap: %v, %v", s, e)
	}
}

func TestEachWinner(t *testing.T) {
	for winner, text := range []string{"win 0\n", "win 1\n", "win 2\n"} {
		for _, limit := range []int{1, 2, 600} {
			goes(t, game(t, text, limit), 1, make([]api.Pair, 9), state(0, 0, 0), over(state(1, 0, 0), winner))
		}
	}
}

func TestNothingBehindTheEndCounts(t *testing.T) {
	d := drawn(21)
	for _, x := range []struct {
		g    api.Game
		ends int
	}{
		{game(t, adds, 5), 5},
		{game(t, winsBy, 5), 3},
		{game(t, failsBy, 5), 5},
	} {
		in := []api.Pair{{7, 2}, {1, 2}, {9, 2}, {4, 4}, {7, 1}}[:x.ends]
		want, e := duel.States(x.g, 8, in)
		if e != api.OK || len(want) != x.ends+1 || !want[x.ends].Over {
			t.Fatalf("the game is not over behind %d inputs: %v, %v", x.ends, want, e)
		}
		for _, n := range []int{1, 2, 3, 10, 600, 1 << 16} {
			behind := make([]api.Pair, n)
			for i := range behind {
				behind[i] = d.pair()
			}
			goes(t, x.g, 8, slices.Concat(in, behind), want...)
		}
	}
}

// A frame that fails passes, and does nothing: not even what it did ahead of its fault.
func TestFramesThatFail(t *testing.T) {
	g := game(t, failsBy, 3)
	first, second, third := uint32(270369), uint32(67634689), uint32(2647435461)
	after := func(frame int, a, b int32, seed uint32) api.State {
		return api.State{Frame: frame, Seed: seed, Cells: [16]int32{a, b, int32(seed % 65536)}}
	}
	start := state(0, 0, 0)
	goes(t, g, 1, []api.Pair{{1, 2}, {3, 1}, {2, 2}}, start, after(1, 1, 2, first), after(2, 4, 3, second), over(after(3, 6, 5, third), 0))
	goes(t, g, 1, []api.Pair{{7, 2}, {3, 1}, {2, 2}}, start, state(1, 0, 0), after(2, 3, 1, first), over(after(3, 5, 3, second), 0))
	goes(t, g, 1, []api.Pair{{1, 2}, {7, 1}, {2, 2}}, start, after(1, 1, 2, first), after(2, 1, 2, first), over(after(3, 3, 4, second), 1))
	goes(t, g, 1, []api.Pair{{1, 2}, {3, 1}, {7, 9}}, start, after(1, 1, 2, first), after(2, 4, 3, second), over(after(3, 4, 3, second), 0))
	goes(t, g, 1, []api.Pair{{7, 2}, {7, 1}, {7, 9}}, start, state(1, 0, 0), state(2, 0, 0), over(state(3, 0, 0), 2))
	goes(t, g, 1, []api.Pair{{1, 2}, {7, 1}}, start, after(1, 1, 2, first), after(2, 1, 2, first))
}

func TestFramesWithoutFuel(t *testing.T) {
	g := game(t, adds, 3)
	g.Fuel = 7 // one less than a frame takes
	goes(t, g, 1, counted(9), state(0, 0, 0), state(1, 0, 0), state(2, 0, 0), over(state(3, 0, 0), 2))
	g.Fuel = 8
	goes(t, g, 1, counted(9), countedStates(9, 3)...)
}

// P11.2

func results(t *testing.T, s api.State, limit, winner, why int, over bool) {
	t.Helper()
	for _, g := range []api.Game{{Cap: limit}, {Code: make([]api.Ins, 300), Cap: limit, Fuel: -1}, game(t, adds, limit)} {
		if w, y, o := duel.Result(s, g); w != winner || y != why || o != over {
			t.Errorf("Result of %v with Cap %d: got %d, %d, %v, want %d, %d, %v", s, limit, w, y, o, winner, why, over)
		}
	}
}

var sizes = []int{math.MinInt, -1, 0, 1, 2, 5, 599, 600, 601, math.MaxInt}

func TestResultOfWhatIsNotOver(t *testing.T) {
	for _, frame := range sizes {
		for _, limit := range sizes {
			for winner := -1; winner <= 3; winner++ {
				s := state(frame, 3, 2)
				s.Winner = winner
				results(t, s, limit, 0, 0, false)
			}
		}
	}
	results(t, api.State{}, 0, 0, 0, false)
}

func TestResultOfWhatIsOver(t *testing.T) {
	for _, frame := range sizes {
		for _, limit := range sizes {
			why := 1 // by the game
			if frame == limit {
				why = 2 // by the cap
			}
			for winner, told := range []int{0, 1, 0} {
				results(t, over(state(frame, 0, 0), winner), limit, told, why, true)
				// The cells tell nothing any more.
				results(t, over(state(frame, 9, 1), winner), limit, told, why, true)
				results(t, over(state(frame, 1, 9), winner), limit, told, why, true)
			}
		}
	}
}

// What is no state has its Winner, as the words say.
func TestResultOfAnyWinner(t *testing.T) {
	for _, winner := range []int{math.MinInt, -2, -1, 3, 4, 256, 258, 1<<32 + 2, math.MaxInt} {
		results(t, over(state(4, 0, 0), winner), 5, winner, api.WhyGame, true)
		results(t, over(state(5, 0, 0), winner), 5, winner, api.WhyCap, true)
	}
}

func TestResultOfGames(t *testing.T) {
	for _, x := range []struct {
		text   string
		limit  int
		in     []api.Pair
		winner int
		why    int
		over   bool
	}{
		{"win 0\n", 2, make([]api.Pair, 1), 0, api.WhyGame, true},
		{"win 1\n", 2, make([]api.Pair, 9), 1, api.WhyGame, true},
		{"win 2\n", 2, make([]api.Pair, 2), 0, api.WhyGame, true},
		{"win 0\n", 1, make([]api.Pair, 1), 0, api.WhyCap, true},
		{"win 1\n", 1, make([]api.Pair, 9), 1, api.WhyCap, true},
		{"win 2\n", 1, make([]api.Pair, 1), 0, api.WhyCap, true},
		{"win 1\n", 1, nil, 0, 0, false},
		{adds, 2, []api.Pair{{1, 9}}, 0, 0, false},
		{adds, 2, []api.Pair{{1, 9}, {9, 0}}, 0, api.WhyCap, true},
		{adds, 2, []api.Pair{{1, 9}, {7, 0}}, 1, api.WhyCap, true},
		{adds, 2, []api.Pair{{1, 9}, {8, 0}}, 0, api.WhyCap, true},
		{winsBy, 3, []api.Pair{{1, 1}, {9, 1}, {1, 1}}, 1, api.WhyGame, true},
		{winsBy, 3, []api.Pair{{1, 1}, {1, 1}, {9, 1}}, 1, api.WhyCap, true},
		{failsBy, 2, []api.Pair{{1, 2}, {7, 1}}, 1, api.WhyCap, true},
	} {
		g := game(t, x.text, x.limit)
		s, e := duel.Play(g, 1, x.in)
		if w, why, over := duel.Result(s, g); e != api.OK || w != x.winner || why != x.why || over != x.over {
			t.Errorf("%q, %d, %v: got %d, %d, %v (%v), want %d, %d, %v", x.text, x.limit, x.in, w, why, over, e, x.winner, x.why, x.over)
		}
	}
}

// P11.3: a beginning, gone on with

// wantStates is the states of a game written another way: those of all inputs but the last, and one more, if Step takes it.
func wantStates(g api.Game, seed uint32, in []api.Pair) []api.State {
	if len(in) == 0 {
		return []api.State{vm.Start(seed)}
	}
	l := wantStates(g, seed, in[:len(in)-1])
	if s, e := vm.Step(g, l[len(l)-1], in[len(in)-1]); e == api.OK {
		return append(l, s)
	}
	return l
}

// goneOn is Play of the first n inputs, and then Step with the others.
func goneOn(t *testing.T, g api.Game, seed uint32, in []api.Pair, n int) api.State {
	t.Helper()
	s, e := duel.Play(g, seed, in[:n])
	for i := n; i < len(in) && !s.Over && e == api.OK; i++ {
		s, e = vm.Step(g, s, in[i])
	}
	if e != api.OK {
		t.Fatalf("gone on from %d inputs: %v", n, e)
	}
	return s
}

func partsAnywhere(t *testing.T, g api.Game, seed uint32, in []api.Pair) {
	t.Helper()
	want := wantStates(g, seed, in)
	goes(t, g, seed, in, want...)
	for n := 0; n <= len(in); n++ {
		if s := goneOn(t, g, seed, in, n); s != want[len(want)-1] {
			t.Fatalf("%v, %v parted at %d: got %v, want %v", g, in, n, s, want[len(want)-1])
		}
		begun, e := duel.States(g, seed, in[:n])
		if e != api.OK || !slices.Equal(begun, want[:min(n+1, len(want))]) {
			t.Fatalf("%v: the states of %d inputs: %v, %v", g, n, begun, e)
		}
	}
}

func TestPartedAnywhere(t *testing.T) {
	in := []api.Pair{{1, 2}, {7, 3}, {5, 5}, {7, 7}, {9, 1}, {2, 2}, {7, 0}, {3, 1}}
	for _, text := range []string{"", adds, winsBy, failsBy, "win 2\n", "rand\nstore 5\nframe\nstore 6\n"} {
		for limit := 1; limit <= 10; limit++ {
			partsAnywhere(t, game(t, text, limit), 6, in)
		}
	}
	partsAnywhere(t, game(t, failsBy, 600), 0, counted(610))
}

func TestAnyGamesPartedAnywhere(t *testing.T) {
	d := drawn(22)
	won, capped, open := 0, 0, 0
	for range 3000 {
		g, seed, in := d.game(), uint32(d.number()), make([]api.Pair, d.below(14))
		for i := range in {
			in[i] = d.pair()
		}
		partsAnywhere(t, g, seed, in)
		if t.Failed() {
			return
		}
		s, _ := duel.Play(g, seed, in)
		switch _, why, _ := duel.Result(s, g); why {
		case api.WhyGame:
			won++
		case api.WhyCap:
			capped++
		default:
			open++
		}
	}
	if won < 300 || capped < 300 || open < 300 {
		t.Errorf("the games are too much alike: %d won, %d by the cap, %d open", won, capped, open)
	}
}
