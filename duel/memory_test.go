package duel_test

import (
	"slices"
	"testing"

	"gauntlet/api"
	"gauntlet/duel"
)

// P11.3: what is handed in, and what is answered

// roomy is a list with spare room that is full of something.
func roomy[T any](l []T, x T) []T {
	all := append(slices.Clone(l), slices.Repeat([]T{x}, 8)...)
	return all[:len(l)]
}

// spared tells whether a list that roomy made is as it was, and its spare room, too.
func spared[T comparable](l, kept []T, x T) bool {
	return slices.Equal(l, kept) && slices.Equal(l[len(l):cap(l)][:8], slices.Repeat([]T{x}, 8))
}

// scribble fills a list and its spare room.
func scribble[T any](l []T, x T) {
	l = l[:cap(l)]
	for i := range l {
		l[i] = x
	}
}

var (
	markIns  = api.Ins{Op: 77, Arg: 78}
	markPair = api.Pair{77, 78}
)

// wrongAndRight is games of which some are none.
func wrongAndRight(d *drawn, t *testing.T) []api.Game {
	l := []api.Game{{}, {Cap: 3, Fuel: 3}, {Code: make([]api.Ins, 257), Cap: 3, Fuel: 3}, {Code: []api.Ins{{Op: 99}}, Cap: 3, Fuel: 3}, game(t, adds, 3), game(t, winsBy, 9), game(t, failsBy, 600)}
	for range 200 {
		l = append(l, d.game())
	}
	return l
}

func TestWhatIsHandedInStaysAsItWas(t *testing.T) {
	d := drawn(23)
	for _, kept := range wrongAndRight(&d, t) {
		keptIn := make([]api.Pair, d.below(12))
		for i := range keptIn {
			keptIn[i] = d.pair()
		}
		g := api.Game{Code: roomy(kept.Code, markIns), Cap: kept.Cap, Fuel: kept.Fuel}
		in := roomy(keptIn, markPair)
		s, _ := duel.Play(g, 5, in)
		duel.States(g, 5, in)
		duel.Result(s, g)
		if !spared(g.Code, kept.Code, markIns) || !spared(in, keptIn, markPair) {
			t.Fatalf("what was handed in is another one: %v, %v", kept, keptIn)
		}
	}
}

// Nothing of what was handed in is kept: other inputs and instructions in its place are taken as themselves, and an earlier answer does not go with them.
func TestWhatIsHandedInIsNotKept(t *testing.T) {
	g := game(t, adds, 3)
	in := []api.Pair{{1, 2}, {3, 4}, {5, 6}, {7, 8}}
	want := []api.State{state(0, 0, 0), state(1, 1, 2), state(2, 4, 6), over(state(3, 9, 12), 1)}
	goes(t, g, 1, in, want...)
	l, _ := duel.States(g, 1, in)
	scribble(in, api.Pair{2, 1})
	goes(t, g, 1, in, state(0, 0, 0), state(1, 2, 1), state(2, 4, 2), over(state(3, 6, 3), 0))
	scribble(g.Code, api.Ins{Op: api.OpHalt})
	goes(t, g, 1, in, state(0, 0, 0), state(1, 0, 0), state(2, 0, 0), over(state(3, 0, 0), 2))
	if !slices.Equal(l, want) {
		t.Errorf("an earlier answer is another one: %v", l)
	}
}

func TestAnswersShareNothing(t *testing.T) {
	for _, limit := range []int{1, 2, 3, 4, 7, 8, 600} {
		for _, n := range []int{0, 1, 2, 3, 7, 8, 700} {
			g, in := game(t, adds, limit), counted(n)
			want := countedStates(n, limit)
			first, _ := duel.States(g, 1, in)
			second, _ := duel.States(g, 1, in)
			scribble(first, api.State{Frame: 99, Over: true})
			if !slices.Equal(second, want) {
				t.Fatalf("two answers of States share memory: %v", second)
			}
			goes(t, g, 1, in, want...)
			if !slices.Equal(in, counted(n)) || !slices.Equal(g.Code, program(t, adds)) {
				t.Fatalf("what was handed in goes with the answer")
			}
		}
	}
}

func TestTheSameTwice(t *testing.T) {
	d := drawn(24)
	type call struct {
		g    api.Game
		seed uint32
		in   []api.Pair
		last api.State
		l    []api.State
		e    api.Errno
	}
	var calls []call
	for _, g := range wrongAndRight(&d, t) {
		c := call{g: g, seed: uint32(d.number()), in: make([]api.Pair, d.below(12))}
		for i := range c.in {
			c.in[i] = d.pair()
		}
		c.last, c.e = duel.Play(c.g, c.seed, c.in)
		c.l, _ = duel.States(c.g, c.seed, c.in)
		calls = append(calls, c)
	}
	for range 2 {
		slices.Reverse(calls)
		for _, c := range calls {
			s, e := duel.Play(c.g, c.seed, c.in)
			l, e2 := duel.States(c.g, c.seed, c.in)
			if s != c.last || e != c.e || e2 != c.e || !slices.Equal(l, c.l) {
				t.Fatalf("%v, %d, %v: first %v, %v, then %v, %v, %v", c.g, c.seed, c.in, c.l, c.e, s, l, e)
			}
			if e == api.OK && s != l[len(l)-1] {
				t.Fatalf("Play %v, States %v", s, l)
			}
		}
	}
}
