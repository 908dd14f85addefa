package duel

import (
	"slices"
	"testing"

	"gauntlet/api"
)

// taught is a step that counts its calls and is over behind so many of them.
type taught struct {
	pairs []api.Pair
	till  int
	fails int // the call that answers an error
}

func (x *taught) step(g api.Game, s api.State, in api.Pair) (api.State, api.Errno) {
	x.pairs = append(x.pairs, in)
	s.Frame += 10
	s.Over = len(x.pairs) == x.till
	if len(x.pairs) == x.fails {
		return s, api.ErrDead
	}
	return s, api.OK
}

// The fold goes on by whatever step it is handed, once an input, and never behind the end.
func TestFoldGoesByItsStep(t *testing.T) {
	in := []api.Pair{{1, 2}, {3, 4}, {5, 6}, {7, 8}}
	g := api.Game{Cap: 9, Fuel: 9}
	for till := 1; till <= 6; till++ {
		x := taught{till: till}
		var frames []int
		s, e := fold(g, 5, in, x.step, func(s api.State) { frames = append(frames, s.Frame) })
		n := min(till, len(in))
		if want := (api.State{Frame: 10 * n, Seed: 5, Over: till <= 4}); s != want || e != api.OK {
			t.Errorf("over behind %d: got %v, %v, want %v", till, s, e, want)
		}
		if !slices.Equal(x.pairs, in[:n]) || !slices.Equal(frames, []int{0, 10, 20, 30, 40}[:n+1]) {
			t.Errorf("over behind %d: stepped with %v, shown %v", till, x.pairs, frames)
		}
	}
}

func TestFoldTellsTheErrorOfAStep(t *testing.T) {
	for fails := 1; fails <= 3; fails++ {
		x := taught{fails: fails}
		shown := 0
		s, e := fold(api.Game{Cap: 9, Fuel: 9}, 5, make([]api.Pair, 3), x.step, func(api.State) { shown++ })
		if s != (api.State{}) || e != api.ErrDead || len(x.pairs) != fails || shown != fails {
			t.Errorf("step %d fails: %v, %v, behind %d steps, %d shown", fails, s, e, len(x.pairs), shown)
		}
	}
}

func TestFoldChecksTheGameFirst(t *testing.T) {
	x := taught{}
	s, e := fold(api.Game{}, 5, make([]api.Pair, 3), x.step, func(api.State) { t.Error("a state is shown") })
	if s != (api.State{}) || e != api.ErrArg || len(x.pairs) != 0 {
		t.Errorf("%v, %v, behind %d steps", s, e, len(x.pairs))
	}
}
