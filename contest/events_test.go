package contest_test

import (
	"math"
	"testing"

	"gauntlet/api"
	"gauntlet/contest"
)

// situation is a match at one of the places where events are answered otherwise.
type situation struct {
	name string
	c    *contest.Contest
}

// won is a match whose game the player 9 has won in its frame 2, without a Result.
func won(t *testing.T) *contest.Contest {
	t.Helper()
	c := opened(t, game(t, nines, 12))
	tells(t, c, 7, 1, 1, 1, 1)
	tells(t, c, 9, 2, 2, 9)
	return c
}

// behind is a match behind one more event.
func behind(t *testing.T, c *contest.Contest, e api.Event) *contest.Contest {
	t.Helper()
	does(t, c, e, api.OK)
	return c
}

// overs is matches in which nobody plays any more.
func overs(t *testing.T) []situation {
	t.Helper()
	return []situation{
		{"the game alone is over", won(t)},
		{"behind a Result", behind(t, won(t), result(9, api.WhyGame))},
		{"behind a Forfeit", behind(t, opened(t, game(t, nines, 12)), forfeit(7))},
	}
}

func situations(t *testing.T) []situation {
	t.Helper()
	g := game(t, nines, 12)
	played := opened(t, g)
	tells(t, played, 7, 1, 2)
	return append(overs(t), situation{"unopened", made(t, g)}, situation{"open", opened(t, g)}, situation{"played", played})
}

// P18.1: ErrForm

func TestKindsThatAreNone(t *testing.T) {
	for _, x := range situations(t) {
		for _, kind := range []int{math.MinInt, -1 << 32, 1 - 1<<32, -1, 0, 6, 7, 100, 1<<8 + 1, 1<<32 + 1, 1<<32 + 3, math.MaxInt} {
			for _, e := range []api.Event{{}, {Player: 7}, {Player: 7, Other: 9}, {Player: 7, Other: 9, Frame: 1, In: 1, N: 1}} {
				e.Kind = kind
				if got := x.c.Apply(e); got != api.ErrForm {
					t.Errorf("%s: Apply(%v): %v", x.name, e, got)
				}
			}
			does(t, x.c, api.Event{Kind: kind, Player: 9, N: 1}, api.ErrForm)
		}
	}
}

// filled is an event with each of some fields other than 0, one way or another.
func filled(e api.Event, field string, v int) api.Event {
	switch field {
	case "Other":
		e.Other = v
	case "Frame":
		e.Frame = v
	case "In":
		e.In = uint16(v&0xff | 1)
	case "N":
		e.N = v
	}
	return e
}

func TestFieldsThatAKindDoesNotName(t *testing.T) {
	of := []struct {
		events []api.Event
		fields []string
	}{
		{[]api.Event{open(7, 9, 5), open(1, 2, 0), open(0, 0, -1)}, []string{"Frame", "In"}},
		{[]api.Event{join(7), join(9), join(8)}, []string{"Other", "Frame", "In", "N"}},
		{[]api.Event{input(7, 0, 1), input(9, 0, 0), input(9, -1, 3), input(8, 600, 0)}, []string{"Other", "N"}},
		{[]api.Event{forfeit(7), forfeit(9), forfeit(8)}, []string{"Other", "Frame", "In", "N"}},
		{[]api.Event{result(9, 1), result(7, 2), result(8, 0)}, []string{"Other", "Frame", "In"}},
	}
	for _, x := range situations(t) {
		was := look(x.c)
		for _, row := range of {
			for _, e := range row.events {
				all := e
				for _, field := range row.fields {
					for _, v := range []int{1, -1, 7, 9, 1 << 16, 1 << 32, math.MinInt, math.MaxInt} {
						wrong := filled(e, field, v)
						if may, did := x.c.May(wrong), x.c.Apply(wrong); may != api.ErrForm || did != api.ErrForm {
							t.Errorf("%s: %s of %v: May %v, Apply %v", x.name, field, wrong, may, did)
						}
					}
					all = filled(all, field, 1)
				}
				does(t, x.c, all, api.ErrForm)
			}
		}
		stays(t, x.c, was)
	}
}

// P18.1: Open

func TestOpen(t *testing.T) {
	for _, x := range []struct {
		e    api.Event
		want api.Errno
	}{
		{open(0, 9, 5), api.ErrArg}, {open(7, 0, 5), api.ErrArg}, {open(0, 0, 5), api.ErrArg},
		{open(-1, 9, 5), api.ErrArg}, {open(7, -1, 5), api.ErrArg}, {open(math.MinInt, math.MaxInt, 5), api.ErrArg},
		{open(7, 7, 5), api.ErrArg}, {open(1, 1, 0), api.ErrArg}, {open(math.MaxInt, math.MaxInt, 0), api.ErrArg},
		{open(7, 9, -1), api.ErrArg}, {open(7, 9, 1<<32), api.ErrArg}, {open(7, 9, 1<<32+5), api.ErrArg}, {open(7, 9, math.MinInt), api.ErrArg}, {open(7, 9, math.MaxInt), api.ErrArg},
		{open(7, 9, 0), api.OK}, {open(9, 7, 1), api.OK}, {open(1, 2, 1<<32-1), api.OK}, {open(2, 1, 1<<31), api.OK}, {open(math.MaxInt, 1, 5), api.OK}, {open(1, 1<<32+1, 5), api.OK},
	} {
		c := made(t, game(t, adds, 12))
		does(t, c, x.e, x.want)
		want := contest.Status{}
		if x.want == api.OK {
			want = contest.Status{Players: [2]int{x.e.Player, x.e.Other}, Seed: uint32(x.e.N), Open: true}
		}
		if s := c.Status(); s != want {
			t.Errorf("behind %v: got %v, want %v", x.e, s, want)
		}
	}
}

func TestOpenTwice(t *testing.T) {
	for _, x := range situations(t) {
		if x.name == "unopened" {
			continue
		}
		for _, e := range []api.Event{open(7, 9, 5), open(1, 2, 3), open(0, 9, 5), open(7, 7, 5), open(7, 9, -1), open(7, 9, 1<<32)} {
			does(t, x.c, e, api.ErrState)
		}
	}
}

func TestAheadOfOpen(t *testing.T) {
	c := made(t, game(t, adds, 12))
	for _, player := range someone {
		for _, e := range []api.Event{join(player), input(player, 0, 1), input(player, -1, 1), input(player, 12, 0), forfeit(player), result(player, 0), result(player, 1)} {
			does(t, c, e, api.ErrState)
		}
	}
	// What was refused makes no odds.
	does(t, c, open(7, 9, 5), api.OK)
	stays(t, c, look(opened(t, game(t, adds, 12))))
}

// P18.1: ErrOver and ErrPlayer

func TestBehindTheEnd(t *testing.T) {
	for _, x := range overs(t) {
		for _, player := range someone {
			for _, e := range []api.Event{join(player), input(player, 0, 1), input(player, 0, 5), input(player, 3, 1), input(player, 4, 1), input(player, -1, 1), input(player, 12, 1), forfeit(player)} {
				does(t, x.c, e, api.ErrOver)
			}
		}
	}
}

func TestPlayersWithoutASeat(t *testing.T) {
	c := opened(t, game(t, adds, 12))
	tells(t, c, 7, 1, 2, 3, 4, 5, 6, 7, 8)
	for range 100 {
		does(t, c, join(9), api.OK)
	}
	for _, player := range someone[2:] {
		for _, e := range []api.Event{join(player), input(player, 0, 1), input(player, 1, 1), input(player, 8, 1), input(player, -1, 1), input(player, 12, 1), forfeit(player)} {
			does(t, c, e, api.ErrPlayer)
		}
	}
}

// P18.1: Join

func TestJoins(t *testing.T) {
	for _, x := range [][2]int{{7, 9}, {9, 7}} {
		c := opened(t, game(t, adds, 12))
		seat := 0
		if x[0] == 9 {
			seat = 1
		}
		does(t, c, join(x[1]), api.OK)
		for n := range 100 {
			if s := c.Status(); s.Lives[seat] != n || s.Lives[1-seat] != 1 {
				t.Fatalf("Lives behind %d: %v", n, s.Lives)
			}
			does(t, c, join(x[0]), api.OK)
		}
		does(t, c, join(x[0]), api.ErrLimit)
		does(t, c, join(x[0]), api.ErrLimit)
		does(t, c, join(x[1]), api.OK)
		if s := c.Status(); s.Lives[seat] != 100 || s.Lives[1-seat] != 2 {
			t.Errorf("Lives: %v", s.Lives)
		}
		// Whoever may not join any more goes on with what he has.
		does(t, c, input(x[0], 0, 1), api.OK)
		does(t, c, forfeit(x[0]), api.OK)
		does(t, c, join(x[0]), api.ErrOver)
	}
}

// P18.1: Input

func TestFramesOfInputs(t *testing.T) {
	for _, frames := range []int{1, 2, 12, 600} {
		for _, player := range []int{7, 9} {
			c := opened(t, game(t, adds, frames))
			for _, frame := range []int{math.MinInt, -1 << 32, -1, frames, frames + 1, 1 << 32, math.MaxInt} {
				does(t, c, input(player, frame, 0), api.ErrArg)
			}
			want := api.ErrWindow
			if frames == 1 {
				want = api.OK
			}
			does(t, c, input(player, frames-1, 0), want)
		}
	}
}

// Behind all frames of one's own there is none left but what is no frame at all.
func TestInputsAtTheCap(t *testing.T) {
	for _, x := range [][2]int{{7, 9}, {9, 7}} {
		c := opened(t, game(t, adds, 8))
		tells(t, c, x[0], 1, 2, 3, 4, 5, 6, 7, 8)
		does(t, c, input(x[0], 7, 8), api.ErrHas)
		does(t, c, input(x[0], 7, 9), api.ErrOdd)
		does(t, c, input(x[0], 8, 9), api.ErrArg)
		tells(t, c, x[1], 0, 0, 0, 0, 0, 0, 0)
		does(t, c, input(x[1], 7, 0), api.OK)
		does(t, c, input(x[1], 7, 0), api.ErrOver)
		does(t, c, input(x[1], 8, 0), api.ErrOver)
	}
}

func TestInputsThatWereTold(t *testing.T) {
	for _, x := range [][2]int{{7, 9}, {9, 7}} {
		c := opened(t, game(t, adds, 12))
		own := []uint16{0, 1, 65535, 256, 1, 255}
		tells(t, c, x[0], own...)
		tells(t, c, x[1], 1, 0)
		for frame, in := range own {
			for _, v := range []uint16{0, 1, 2, 255, 256, 257, 65534, 65535} {
				want := api.ErrOdd
				if v == in {
					want = api.ErrHas
				}
				does(t, c, input(x[0], frame, v), want)
			}
		}
		for _, frame := range []int{7, 8, 11} {
			does(t, c, input(x[0], frame, 1), api.ErrWindow)
		}
		does(t, c, input(x[0], 12, 1), api.ErrArg)
		does(t, c, input(x[0], 6, 1), api.OK)
	}
}

func TestHowFarAhead(t *testing.T) {
	for _, x := range [][2]int{{7, 9}, {9, 7}} {
		c := opened(t, game(t, adds, 600))
		for other := range 20 {
			ahead := c.Status().Count[0] + c.Status().Count[1] - other
			for ; ahead < other+api.MaxAhead; ahead++ {
				does(t, c, input(x[0], ahead, uint16(ahead)), api.OK)
			}
			does(t, c, input(x[0], ahead, uint16(ahead)), api.ErrWindow)
			does(t, c, input(x[0], ahead+1, 0), api.ErrWindow)
			does(t, c, input(x[0], ahead-1, uint16(ahead-1)), api.ErrHas)
			does(t, c, input(x[0], ahead-1, 0), api.ErrOdd)
			does(t, c, input(x[1], other+1, 0), api.ErrWindow)
			does(t, c, input(x[1], other, 0), api.OK)
		}
	}
}

// P18.1: Forfeit

func TestForfeit(t *testing.T) {
	for loser, player := range []int{7, 9} {
		for _, ahead := range []int{0, 3} {
			c := opened(t, game(t, adds, 12))
			does(t, c, join(9), api.OK)
			for range ahead {
				tells(t, c, 9, 1)
			}
			does(t, c, forfeit(player), api.OK)
			want := contest.Status{Players: [2]int{7, 9}, Seed: 5, Lives: [2]int{0, 1}, Count: [2]int{0, ahead}, Over: true, Winner: 1 - loser, Why: api.WhyForfeit, Open: true}
			if s := c.Status(); s != want {
				t.Errorf("got %v, want %v", s, want)
			}
			for _, other := range []int{7, 9, 8} {
				does(t, c, forfeit(other), api.ErrOver)
				for why := range 5 {
					does(t, c, result(other, why), api.ErrOver)
				}
			}
		}
	}
}

// P18.1: Result

func TestResult(t *testing.T) {
	for _, x := range []struct {
		text          string
		frames        int
		first, second []uint16
		winner, why   int
	}{
		{nines, 12, []uint16{1, 9}, []uint16{1, 1}, 0, api.WhyGame},
		{nines, 12, []uint16{1, 1, 1}, []uint16{1, 9}, 1, api.WhyGame},
		{nines, 12, []uint16{9}, []uint16{9}, 0, api.WhyGame},
		{nines, 12, []uint16{1, 8}, []uint16{1, 1, 9}, 0, api.WhyGame}, // by nobody
		{nines, 2, []uint16{1, 1}, []uint16{1, 9}, 1, api.WhyCap},      // in the very last frame
		{nines, 2, []uint16{1, 8}, []uint16{1, 1}, 0, api.WhyCap},
		{nines, 2, []uint16{1, 1}, []uint16{1, 1}, 0, api.WhyCap}, // both have the same
		{adds, 3, []uint16{1, 2, 3}, []uint16{3, 2, 2}, 1, api.WhyCap},
		{adds, 3, []uint16{1, 2, 4}, []uint16{3, 2, 1}, 0, api.WhyCap},
		{adds, 1, []uint16{1}, []uint16{2}, 1, api.WhyCap},
		{adds, 1, []uint16{0}, []uint16{0}, 0, api.WhyCap},
		{"win 1\n", 1, []uint16{0}, []uint16{0}, 1, api.WhyCap},
		{"win 1\n", 2, []uint16{0}, []uint16{0}, 1, api.WhyGame},
	} {
		c := opened(t, game(t, x.text, x.frames))
		tells(t, c, 7, x.first...)
		for _, in := range x.second {
			if c.State().Over {
				break
			}
			for player, why := range map[int]int{7: api.WhyGame, 9: api.WhyCap, 8: 0} {
				does(t, c, result(player, why), api.ErrState)
			}
			tells(t, c, 9, in)
		}
		for _, player := range someone {
			for _, why := range []int{math.MinInt, -1, 0, 1, 2, 3, 4, x.why + 1<<32, math.MaxInt} {
				if player != 7+2*x.winner || why != x.why {
					does(t, c, result(player, why), api.ErrOdd)
				}
			}
		}
		if s := c.Status(); s.Over || s.Winner != 0 || s.Why != 0 {
			t.Errorf("ahead of the Result: %v", s)
		}
		does(t, c, result(7+2*x.winner, x.why), api.OK)
		if s := c.Status(); !s.Over || s.Winner != x.winner || s.Why != x.why {
			t.Errorf("behind the Result of %v: %v", x, s)
		}
		for _, player := range someone {
			for why := range 5 {
				does(t, c, result(player, why), api.ErrOver)
			}
		}
	}
}

// W4: each error ahead of those that are named behind it

func TestOrderOfErrors(t *testing.T) {
	g := game(t, adds, 12)
	c := opened(t, g)
	tells(t, c, 7, 1, 2, 3, 4, 5, 6, 7, 8)
	over := behind(t, opened(t, g), forfeit(7))
	for _, x := range []struct {
		c    *contest.Contest
		e    api.Event
		want api.Errno
	}{
		{made(t, g), api.Event{Kind: api.EventOpen, Frame: 1}, api.ErrForm},        // and no player
		{c, api.Event{Kind: api.EventOpen, Frame: 1}, api.ErrForm},                 // and open
		{c, open(0, 0, -1), api.ErrState},                                          // and no player
		{made(t, g), api.Event{Kind: api.EventJoin, N: 1}, api.ErrForm},            // and unopened
		{over, api.Event{Kind: api.EventJoin, Player: 8, N: 1}, api.ErrForm},       // and over
		{over, input(8, -1, 0), api.ErrOver},                                       // and no seat, no frame
		{c, input(8, -1, 0), api.ErrPlayer},                                        // and no frame
		{c, input(8, 0, 1), api.ErrPlayer},                                         // and told already by another one
		{c, input(7, 12, 0), api.ErrArg},                                           // and too far
		{c, input(7, 8, 0), api.ErrWindow},                                         // at Count, too far
		{c, input(7, 0, 1), api.ErrHas},                                            // though the window is full
		{over, api.Event{Kind: api.EventResult, Player: 9, Other: 7}, api.ErrForm}, // and over
		{over, result(8, 9), api.ErrOver},                                          // and odd
		{c, result(8, 9), api.ErrState},                                            // and odd
	} {
		does(t, x.c, x.e, x.want)
	}
}
