package contest_test

import (
	"math"
	"slices"
	"testing"

	"gauntlet/api"
	"gauntlet/code"
	"gauntlet/contest"
	"gauntlet/vm"
)

// adds adds up what each player does.
const adds = "load 0\nin 0\nadd\nstore 0\nload 1\nin 1\nadd\nstore 1\n"

// nines is won by whoever does 9 in a frame (the first one, if both do), and by nobody, if the first one does 8.
const nines = "in 0\npush 9\nsub\nnot\nzero 6\nwin 0\nin 1\npush 9\nsub\nnot\nzero 12\nwin 1\nin 0\npush 8\nsub\nnot\nzero 18\nwin 2\n"

func game(t *testing.T, text string, frames int) api.Game {
	t.Helper()
	l, _, e := code.Parse(text)
	if e != api.OK {
		t.Fatal(e)
	}
	return api.Game{Code: l, Cap: frames, Fuel: 100}
}

func made(t *testing.T, g api.Game) *contest.Contest {
	t.Helper()
	c, e := contest.New(g)
	if e != api.OK || c == nil {
		t.Fatalf("New(%v): %v", g, e)
	}
	return c
}

func open(first, second, seed int) api.Event {
	return api.Event{Kind: api.EventOpen, Player: first, Other: second, N: seed}
}

func join(player int) api.Event { return api.Event{Kind: api.EventJoin, Player: player} }

func input(player, frame int, in uint16) api.Event {
	return api.Event{Kind: api.EventInput, Player: player, Frame: frame, In: in}
}

func forfeit(player int) api.Event { return api.Event{Kind: api.EventForfeit, Player: player} }

func result(player, why int) api.Event {
	return api.Event{Kind: api.EventResult, Player: player, N: why}
}

// does tells whether an event is answered so, and has changed nothing, if it was refused.
func does(t *testing.T, c *contest.Contest, e api.Event, want api.Errno) {
	t.Helper()
	was := look(c)
	for range 3 {
		if got := c.May(e); got != want {
			t.Fatalf("May(%v) behind %v: got %v, want %v", e, c.Events(), got, want)
		}
		stays(t, c, was)
	}
	if got := c.Apply(e); got != want {
		t.Fatalf("Apply(%v) behind %v: got %v, want %v", e, was.events, got, want)
	}
	if want != api.OK {
		stays(t, c, was)
	}
}

// opened is a match of 7 and 9, with the seed 5.
func opened(t *testing.T, g api.Game) *contest.Contest {
	t.Helper()
	c := made(t, g)
	does(t, c, open(7, 9, 5), api.OK)
	return c
}

// tells has a player tell so many inputs.
func tells(t *testing.T, c *contest.Contest, player int, in ...uint16) {
	t.Helper()
	frame := len(c.Inputs(player, 0))
	for i, v := range in {
		if e := c.Apply(input(player, frame+i, v)); e != api.OK {
			t.Fatalf("input %d of %d: %v", frame+i, player, e)
		}
	}
}

// P18.1: New

func TestNewOfWhatIsNoGame(t *testing.T) {
	long := make([]api.Ins, api.MaxCode+1)
	none := []api.Ins{{Op: 23}}
	fine := []api.Ins{{Op: api.OpHalt}}
	for _, x := range []struct {
		g    api.Game
		want api.Errno
	}{
		{api.Game{}, api.ErrArg},
		{api.Game{Code: fine, Cap: 0, Fuel: 1}, api.ErrArg},
		{api.Game{Code: fine, Cap: -1, Fuel: 1}, api.ErrArg},
		{api.Game{Code: fine, Cap: 601, Fuel: 1}, api.ErrArg},
		{api.Game{Code: fine, Cap: math.MaxInt, Fuel: 1}, api.ErrArg},
		{api.Game{Code: fine, Cap: 1<<32 + 1, Fuel: 1}, api.ErrArg},
		{api.Game{Code: fine, Cap: 1, Fuel: 0}, api.ErrArg},
		{api.Game{Code: fine, Cap: 1, Fuel: -1}, api.ErrArg},
		{api.Game{Code: fine, Cap: 1, Fuel: 2001}, api.ErrArg},
		{api.Game{Code: fine, Cap: 1, Fuel: math.MinInt}, api.ErrArg},
		{api.Game{Code: none, Cap: 1, Fuel: 1}, api.ErrForm},
		{api.Game{Code: none, Cap: 0, Fuel: 0}, api.ErrForm},
		{api.Game{Code: []api.Ins{{Op: 0}}, Cap: 1, Fuel: 1}, api.ErrForm},
		{api.Game{Code: []api.Ins{{Op: api.OpJump, Arg: 2}}, Cap: 1, Fuel: 1}, api.ErrForm},
		{api.Game{Code: []api.Ins{{Op: api.OpHalt, Arg: 1}}, Cap: 1, Fuel: 1}, api.ErrForm},
		{api.Game{Code: long, Cap: 1, Fuel: 1}, api.ErrLong},
		{api.Game{Code: long, Cap: 0, Fuel: 0}, api.ErrLong},
	} {
		if c, e := contest.New(x.g); c != nil || e != x.want || e != vm.Check(x.g) {
			t.Errorf("New(%v): got %v, %v, want %v", x.g, c, e, x.want)
		}
	}
}

func TestNewOfAGame(t *testing.T) {
	for _, g := range []api.Game{
		{Cap: 1, Fuel: 1},
		{Cap: 600, Fuel: 2000},
		{Code: slices.Repeat([]api.Ins{{Op: api.OpRand}}, api.MaxCode), Cap: 600, Fuel: 1},
		game(t, adds, 12),
	} {
		stays(t, made(t, g), (&plain{g: g}).look())
	}
}

// The chapter's example

func TestExample(t *testing.T) {
	c := made(t, game(t, adds, 12))
	does(t, c, open(7, 9, 0), api.OK)
	does(t, c, input(7, 0, 3), api.OK)
	if c.Owes(7) || !c.Owes(9) {
		t.Errorf("Owes: got %v and %v", c.Owes(7), c.Owes(9))
	}
}

// P18.2 and P18.1, a match from its beginning to its end

func TestAMatch(t *testing.T) {
	c := made(t, game(t, adds, 3))
	row := []struct {
		e    api.Event
		want api.Errno
	}{
		{join(7), api.ErrState},
		{open(7, 9, 1), api.OK},
		{join(7), api.OK}, {join(9), api.OK}, {join(7), api.OK},
		{input(7, 0, 100), api.OK}, {input(7, 1, 200), api.OK}, {input(7, 0, 100), api.ErrHas},
		{input(9, 0, 65535), api.OK}, {input(9, 0, 65534), api.ErrOdd}, {input(9, 2, 0), api.ErrWindow},
		{input(9, 1, 1), api.OK}, {input(9, 2, 2), api.OK}, {input(9, 3, 3), api.ErrArg},
		{result(9, api.WhyCap), api.ErrState},
		{input(7, 2, 65535), api.OK},
		{forfeit(9), api.ErrOver}, {result(9, api.WhyCap), api.ErrOdd}, {result(7, api.WhyGame), api.ErrOdd},
		{result(7, api.WhyCap), api.OK}, {result(7, api.WhyCap), api.ErrOver},
	}
	var taken []api.Event
	for _, x := range row {
		does(t, c, x.e, x.want)
		if x.want == api.OK {
			taken = append(taken, x.e)
		}
	}
	if l := c.Events(); !slices.Equal(l, taken) {
		t.Errorf("Events: got %v, want %v", l, taken)
	}
	want := contest.Status{Players: [2]int{7, 9}, Seed: 1, Lives: [2]int{2, 1}, Count: [2]int{3, 3}, Over: true, Winner: 0, Why: api.WhyCap, Open: true}
	if s := c.Status(); s != want {
		t.Errorf("Status: got %v, want %v", s, want)
	}
	if l := c.Pairs(); !slices.Equal(l, []api.Pair{{100, 65535}, {200, 1}, {65535, 2}}) {
		t.Errorf("Pairs: got %v", l)
	}
	state := api.State{Frame: 3, Seed: 1, Over: true, Winner: 0}
	state.Cells[0], state.Cells[1] = 65835, 65538
	if s := c.State(); s != state {
		t.Errorf("State: got %v, want %v", s, state)
	}
}
