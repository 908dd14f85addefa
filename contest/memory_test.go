package contest_test

import (
	"reflect"
	"slices"
	"testing"

	"gauntlet/api"
	"gauntlet/contest"
)

// P18.3: of a nil Contest

// nothing tells that in a match nothing can happen.
func nothing(t *testing.T, c *contest.Contest) {
	t.Helper()
	for range 2 {
		for _, e := range []api.Event{{}, {Kind: -1}, {Kind: 6}, {Kind: api.EventJoin, N: 1}, open(7, 9, 5), open(0, 0, -1), join(7), input(7, 0, 1), input(7, -1, 1), forfeit(7), result(7, 1)} {
			if may, did := c.May(e), c.Apply(e); may != api.ErrArg || did != api.ErrArg {
				t.Errorf("%v: May %v, Apply %v", e, may, did)
			}
		}
		if s := c.Status(); s != (contest.Status{}) {
			t.Errorf("Status: %v", s)
		}
		if s := c.State(); s != (api.State{}) {
			t.Errorf("State: %v", s)
		}
		if len(c.Events()) != 0 || len(c.Pairs()) != 0 {
			t.Errorf("Events %v, Pairs %v", c.Events(), c.Pairs())
		}
		for _, player := range someone {
			for _, from := range froms(0) {
				if c.Owes(player) || len(c.Inputs(player, from)) != 0 {
					t.Errorf("of %d: Owes %v, Inputs %v", player, c.Owes(player), c.Inputs(player, from))
				}
			}
		}
	}
}

func TestNilContest(t *testing.T) {
	nothing(t, nil)
}

// One that New did not make is like none.
func TestContestWithoutNew(t *testing.T) {
	nothing(t, &contest.Contest{})
}

// W6 and W7: what is handed in, and what is answered

func TestGamesStayAsTheyWere(t *testing.T) {
	mark := api.Ins{Op: 77, Arg: 78}
	for _, text := range []string{"", adds, nines} {
		kept := game(t, text, 9)
		roomy := append(slices.Clone(kept.Code), slices.Repeat([]api.Ins{mark}, 8)...)
		g := kept
		g.Code = roomy[:len(kept.Code)]
		c := opened(t, g)
		tells(t, c, 7, 1, 2, 3)
		tells(t, c, 9, 1, 2)
		if !slices.Equal(g.Code, kept.Code) || !slices.Equal(roomy[len(kept.Code):], slices.Repeat([]api.Ins{mark}, 8)) {
			t.Errorf("what was handed in is another one: %v", roomy)
		}
	}
}

// A game that is changed behind New changes nothing of the match.
func TestGamesAreNotKept(t *testing.T) {
	g := game(t, adds, 3)
	c, p := made(t, g), &plain{g: game(t, adds, 3)}
	for i := range g.Code {
		g.Code[i] = api.Ins{Op: api.OpWin, Arg: 1}
	}
	g.Cap, g.Fuel = 1, 1
	for _, e := range []api.Event{open(7, 9, 5), input(7, 0, 3), input(9, 0, 2), input(9, 1, 3), input(7, 1, 3), input(7, 2, 0), input(9, 2, 0), result(7, 2)} {
		if err := p.both(t, c, e); err != api.OK {
			t.Fatalf("%v: %v", e, err)
		}
		stays(t, c, p.look())
	}
}

// scribble fills a list and its spare room.
func scribble[T any](l []T, x T) {
	l = l[:cap(l)]
	for i := range l {
		l[i] = x
	}
}

// What is done to an answer goes nowhere: neither into the match, nor into another answer.
func TestAnswersShareNothing(t *testing.T) {
	d := drawn(21)
	for range 30 {
		g := d.game(t)
		c, p := made(t, g), &plain{g: g}
		for range 120 {
			p.both(t, c, d.event(p))
			first, second := look(c), look(c)
			for _, player := range p.seats() {
				scribble(c.Inputs(player, 0), 77)
				scribble(c.Inputs(player, 1), 77)
			}
			scribble(c.Events(), api.Event{Kind: 77, Player: 77})
			scribble(c.Pairs(), api.Pair{77, 77})
			if !reflect.DeepEqual(first, second) {
				t.Fatalf("got %v, then %v", first, second)
			}
			stays(t, c, first)
		}
		stays(t, c, p.look())
	}
}

// Two answers of the same call are two lists.
func TestAnswersAreNew(t *testing.T) {
	c := won(t)
	events, pairs, in := c.Events(), c.Pairs(), c.Inputs(7, 0)
	keptEvents, keptPairs, keptIn := slices.Clone(events), slices.Clone(pairs), slices.Clone(in)
	scribble(c.Events(), api.Event{Kind: 77})
	scribble(c.Pairs(), api.Pair{77, 77})
	scribble(c.Inputs(7, 0), 77)
	if !slices.Equal(events, keptEvents) || !slices.Equal(pairs, keptPairs) || !slices.Equal(in, keptIn) {
		t.Errorf("answers became %v, %v, %v", events, pairs, in)
	}
}

// An answer stays what it is, whatever is called later.
func TestAnswersStay(t *testing.T) {
	d := drawn(22)
	type answers struct {
		events, keptEvents []api.Event
		pairs, keptPairs   []api.Pair
		in, keptIn         []uint16
	}
	for range 10 {
		g := d.game(t)
		c, p := made(t, g), &plain{g: g}
		var all []answers
		for range 150 {
			p.both(t, c, d.event(p))
			a := answers{events: c.Events(), pairs: c.Pairs(), in: c.Inputs(p.seats()[0], 0)}
			a.keptEvents, a.keptPairs, a.keptIn = slices.Clone(a.events), slices.Clone(a.pairs), slices.Clone(a.in)
			all = append(all, a)
		}
		for i, a := range all {
			if !slices.Equal(a.events, a.keptEvents) || !slices.Equal(a.pairs, a.keptPairs) || !slices.Equal(a.in, a.keptIn) {
				t.Fatalf("answers of call %d became %v", i, a)
			}
		}
	}
}

// P0.8: the same events have the same answers, whatever another match does meanwhile.
func TestTwins(t *testing.T) {
	d := drawn(23)
	for range 40 {
		g := d.game(t)
		p := &plain{g: g}
		first, second, third := made(t, g), made(t, g), made(t, g)
		for range 80 {
			e := d.event(p)
			want := p.both(t, first, e)
			third.Apply(d.event(p))
			if got := second.Apply(e); got != want {
				t.Fatalf("%v: %v and %v", e, want, got)
			}
			stays(t, second, look(first))
		}
	}
}
