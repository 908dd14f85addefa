package contest_test

import (
	"math"
	"slices"
	"testing"

	"gauntlet/api"
	"gauntlet/contest"
	"gauntlet/duel"
	"gauntlet/vm"
)

// rands has each frame's drawn number in cell 2, and what it makes of the inputs in cells 0 and 1.
const rands = "rand\nstore 2\nload 2\nin 0\nmul\nstore 0\nload 2\nin 1\nmul\nstore 1\n"

// P18.2: Status

func TestStatus(t *testing.T) {
	g := game(t, nines, 12)
	if s := made(t, g).Status(); s != (contest.Status{}) {
		t.Errorf("unopened: got %v", s)
	}
	open := contest.Status{Players: [2]int{7, 9}, Seed: 5, Open: true}
	if s := opened(t, g).Status(); s != open {
		t.Errorf("open: got %v", s)
	}
	want := open
	want.Count = [2]int{4, 3}
	// Of the game State tells that it is over.
	if c := won(t); c.Status() != want || !c.State().Over {
		t.Errorf("behind the game: got %v, %v", c.Status(), c.State())
	}
	told := want
	told.Over, told.Winner, told.Why = true, 1, api.WhyGame
	if s := behind(t, won(t), result(9, api.WhyGame)).Status(); s != told {
		t.Errorf("behind a Result: got %v", s)
	}
	for loser, player := range []int{7, 9} {
		given := open
		given.Over, given.Winner, given.Why = true, 1-loser, api.WhyForfeit
		if s := behind(t, opened(t, g), forfeit(player)).Status(); s != given {
			t.Errorf("behind a Forfeit: got %v", s)
		}
	}
}

// P18.2: Events

func TestEvents(t *testing.T) {
	c := made(t, game(t, nines, 12))
	want := []api.Event{open(7, 9, 5), input(9, 0, 3), join(9), input(7, 0, 4), input(9, 1, 9), join(9), input(7, 1, 0), result(9, api.WhyGame)}
	refused := []api.Event{join(8), open(0, 1, 2), input(9, 7, 0), input(7, 12, 0), result(7, api.WhyGame), {Kind: 6}}
	for i, e := range want {
		if l := c.Events(); !slices.Equal(l, want[:i]) {
			t.Fatalf("got %v, want %v", l, want[:i])
		}
		for _, x := range refused {
			if c.Apply(x) == api.OK {
				t.Fatalf("%v was taken", x)
			}
		}
		does(t, c, e, api.OK)
	}
	does(t, c, join(9), api.ErrOver)
	does(t, c, want[len(want)-1], api.ErrOver)
	if l := c.Events(); !slices.Equal(l, want) {
		t.Errorf("got %v, want %v", l, want)
	}
}

// P18.2: Pairs and State

// plays tells whether the pairs are these, and the state Play of them.
func plays(t *testing.T, c *contest.Contest, g api.Game, seed uint32, want ...api.Pair) {
	t.Helper()
	if l := c.Pairs(); !slices.Equal(l, want) {
		t.Errorf("Pairs: got %v, want %v", l, want)
	}
	state, e := duel.Play(g, seed, want)
	if s := c.State(); s != state || e != api.OK {
		t.Errorf("State: got %v, want %v, %v", s, state, e)
	}
}

func TestPairsAndState(t *testing.T) {
	for _, text := range []string{adds, rands, "rand\n", ""} {
		for _, seed := range []int{0, 1, 5, 1 << 31, 1<<32 - 1} {
			g := game(t, text, 12)
			c := made(t, g)
			plays(t, c, g, 0)
			if s := c.State(); s != (api.State{Seed: 1}) || s != vm.Start(0) {
				t.Errorf("unopened: got %v", s)
			}
			does(t, c, open(7, 9, seed), api.OK)
			plays(t, c, g, uint32(seed))
			tells(t, c, 7, 5, 6)
			plays(t, c, g, uint32(seed))
			tells(t, c, 9, 1)
			plays(t, c, g, uint32(seed), api.Pair{5, 1})
			does(t, c, join(7), api.OK)
			tells(t, c, 9, 2)
			plays(t, c, g, uint32(seed), api.Pair{5, 1}, api.Pair{6, 2})
			tells(t, c, 9, 3)
			plays(t, c, g, uint32(seed), api.Pair{5, 1}, api.Pair{6, 2})
			does(t, c, forfeit(9), api.OK)
			plays(t, c, g, uint32(seed), api.Pair{5, 1}, api.Pair{6, 2})
		}
	}
}

func TestPairsBehindTheGame(t *testing.T) {
	// What one told for frames behind the end is his, but no pair.
	c := won(t)
	plays(t, c, game(t, nines, 12), 5, api.Pair{1, 2}, api.Pair{1, 2}, api.Pair{1, 9})
	does(t, c, input(9, 3, 1), api.ErrOver)
	does(t, c, result(9, api.WhyGame), api.OK)
	plays(t, c, game(t, nines, 12), 5, api.Pair{1, 2}, api.Pair{1, 2}, api.Pair{1, 9})
	if s := c.State(); !s.Over || s.Frame != 3 || s.Winner != 1 {
		t.Errorf("State: got %v", s)
	}
	if l := c.Inputs(7, 2); !slices.Equal(l, []uint16{1, 1}) {
		t.Errorf("Inputs: got %v", l)
	}
	// A whole window told ahead by the one, the game over with the other's first.
	for _, x := range [][2]int{{7, 9}, {9, 7}} {
		g := game(t, nines, 12)
		c := opened(t, g)
		tells(t, c, x[0], 9, 9, 9, 9, 9, 9, 9, 9)
		plays(t, c, g, 5)
		tells(t, c, x[1], 1)
		pair := api.Pair{9, 1}
		if x[0] == 9 {
			pair = api.Pair{1, 9}
		}
		plays(t, c, g, 5, pair)
		if l := c.Inputs(x[0], 0); len(l) != 8 || c.Status().Count[0]+c.Status().Count[1] != 9 {
			t.Errorf("Inputs: got %v, %v", l, c.Status())
		}
	}
}

// A frame that fails is one nonetheless.
func TestFramesThatFail(t *testing.T) {
	for _, text := range []string{"in 0\nstore 3\nadd\n", "jump 0\n", "win 1\ndrop\n"} {
		g := game(t, text, 3)
		c := opened(t, g)
		tells(t, c, 7, 1, 2, 3)
		tells(t, c, 9, 4)
		plays(t, c, g, 5, api.Pair{1, 4})
		if s := c.State(); s.Frame != 1 || s.Over != (text[0] == 'w') {
			t.Errorf("State of %q: got %v", text, s)
		}
	}
}

// A whole game of the greatest length, at the greatest cost of a frame.
func TestTheLongestGame(t *testing.T) {
	g := game(t, "rand\nin 0\nadd\nload 0\nadd\nstore 0\nrand\nin 1\nadd\nload 1\nadd\nstore 1\n", 600)
	g.Fuel = 2000
	c := opened(t, g)
	var in []api.Pair
	for frame := range 600 {
		pair := api.Pair{uint16(frame), uint16(600 - frame)}
		in = append(in, pair)
		tells(t, c, 9, pair[1])
		tells(t, c, 7, pair[0])
	}
	plays(t, c, g, 5, in...)
	winner, why, over := duel.Result(c.State(), g)
	if !over || why != api.WhyCap {
		t.Fatalf("Result: %d, %d, %v", winner, why, over)
	}
	does(t, c, result(7+2*winner, why), api.OK)
}

// P18.2: Owes

// owes tells whether of 7 and 9 just these owe, and nobody else.
func owes(t *testing.T, c *contest.Contest, first, second bool) {
	t.Helper()
	if c.Owes(7) != first || c.Owes(9) != second {
		t.Errorf("behind %v: Owes %v and %v", c.Events(), c.Owes(7), c.Owes(9))
	}
	for _, player := range someone[2:] {
		if c.Owes(player) {
			t.Errorf("behind %v: %d owes", c.Events(), player)
		}
	}
}

func TestOwes(t *testing.T) {
	c := made(t, game(t, nines, 12))
	owes(t, c, false, false)
	does(t, c, open(7, 9, 5), api.OK)
	owes(t, c, true, true)
	does(t, c, join(7), api.OK)
	owes(t, c, true, true)
	tells(t, c, 7, 1)
	owes(t, c, false, true)
	tells(t, c, 7, 1, 1, 1, 1, 1, 1, 1)
	owes(t, c, false, true)
	tells(t, c, 9, 1)
	owes(t, c, false, true)
	tells(t, c, 9, 1, 1, 1, 1, 1, 1)
	owes(t, c, false, true)
	tells(t, c, 9, 1)
	owes(t, c, true, true)
	tells(t, c, 9, 1)
	owes(t, c, true, false)
	tells(t, c, 7, 9)
	owes(t, c, false, false)
	does(t, c, result(7, api.WhyGame), api.OK)
	owes(t, c, false, false)
	for _, player := range []int{7, 9} {
		c := opened(t, game(t, nines, 12))
		does(t, c, forfeit(player), api.OK)
		owes(t, c, false, false)
		c = opened(t, game(t, nines, 12))
		tells(t, c, 7, 1)
		does(t, c, forfeit(player), api.OK)
		owes(t, c, false, false)
	}
	owes(t, won(t), false, false) // the game alone is over, with one ahead
}

// Behind the last of one's own frames the other one alone owes.
func TestOwesAtTheCap(t *testing.T) {
	c := opened(t, game(t, adds, 2))
	tells(t, c, 7, 1, 1)
	owes(t, c, false, true)
	tells(t, c, 9, 1)
	owes(t, c, false, true)
	tells(t, c, 9, 1)
	owes(t, c, false, false)
}

// P18.2: Inputs

func TestInputs(t *testing.T) {
	unopened := made(t, game(t, adds, 12))
	c := opened(t, game(t, adds, 12))
	first, second := []uint16{5, 0, 65535, 7, 0}, []uint16{0, 6, 256}
	tells(t, c, 7, first...)
	tells(t, c, 9, second...)
	for _, from := range []int{math.MinInt, math.MinInt + 1, -1 << 32, -600, -1, 0, 1, 2, 3, 4, 5, 6, 7, 8, 11, 12, 13, 599, 600, 601, 1 << 32, math.MaxInt - 1, math.MaxInt} {
		at := max(from, 0)
		if l := c.Inputs(7, from); !slices.Equal(l, first[min(at, 5):]) {
			t.Errorf("Inputs(7, %d): got %v", from, l)
		}
		if l := c.Inputs(9, from); !slices.Equal(l, second[min(at, 3):]) {
			t.Errorf("Inputs(9, %d): got %v", from, l)
		}
		for _, player := range someone {
			if l := unopened.Inputs(player, from); len(l) != 0 {
				t.Errorf("unopened: Inputs(%d, %d): got %v", player, from, l)
			}
		}
		for _, player := range someone[2:] {
			if l := c.Inputs(player, from); len(l) != 0 {
				t.Errorf("Inputs(%d, %d): got %v", player, from, l)
			}
		}
	}
}

func TestInputsOfAllFrames(t *testing.T) {
	for _, frames := range []int{1, 2, 8} {
		c := opened(t, game(t, adds, frames))
		for frame := range frames {
			tells(t, c, 9, uint16(frame+1))
		}
		for from := range frames + 2 {
			l := c.Inputs(9, from)
			if len(l) != max(frames-from, 0) || len(l) > 0 && (l[0] != uint16(from+1) || l[len(l)-1] != uint16(frames)) {
				t.Errorf("Cap %d: Inputs(9, %d): got %v", frames, from, l)
			}
		}
	}
}
