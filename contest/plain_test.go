package contest_test

import (
	"math"
	"reflect"
	"slices"
	"testing"

	"gauntlet/api"
	"gauntlet/contest"
	"gauntlet/duel"
)

// plain is the words of the chapter over a list of what was taken: each answer is worked out anew from all of it.
type plain struct {
	g     api.Game
	taken []api.Event
}

// of is what was taken of one kind; of a player, if he is not 0.
func (p *plain) of(kind, player int) []api.Event {
	var l []api.Event
	for _, e := range p.taken {
		if e.Kind == kind && (player == 0 || e.Player == player) {
			l = append(l, e)
		}
	}
	return l
}

func (p *plain) isOpen() bool { return len(p.of(api.EventOpen, 0)) > 0 }

// seats is nobody's, if it is not open.
func (p *plain) seats() [2]int {
	if !p.isOpen() {
		return [2]int{}
	}
	return [2]int{p.taken[0].Player, p.taken[0].Other}
}

func (p *plain) has(player int) bool {
	return p.isOpen() && (player == p.seats()[0] || player == p.seats()[1])
}

func (p *plain) other(player int) int { return p.seats()[0] + p.seats()[1] - player }

func (p *plain) seed() uint32 {
	if !p.isOpen() {
		return 0
	}
	return uint32(p.taken[0].N)
}

func (p *plain) count(player int) int {
	if !p.has(player) {
		return 0
	}
	return len(p.of(api.EventInput, player))
}

func (p *plain) inputs(player, from int) []uint16 {
	var l []uint16
	for i, e := range p.of(api.EventInput, player) {
		if i >= from && p.has(player) {
			l = append(l, e.In)
		}
	}
	return l
}

// states is those of the whole game, as far as both told what they do.
func (p *plain) states() []api.State {
	first, second := p.inputs(p.seats()[0], 0), p.inputs(p.seats()[1], 0)
	in := make([]api.Pair, min(len(first), len(second)))
	for i := range in {
		in[i] = api.Pair{first[i], second[i]}
	}
	l, e := duel.States(p.g, p.seed(), in)
	if e != api.OK {
		panic(e)
	}
	return l
}

func (p *plain) pairs() []api.Pair {
	l := make([]api.Pair, len(p.states())-1)
	for i := range l {
		for seat, player := range p.seats() {
			l[i][seat] = p.inputs(player, i)[0]
		}
	}
	return l
}

func (p *plain) state() api.State {
	l := p.states()
	return l[len(l)-1]
}

// over is who won, and why, behind a Forfeit or a Result.
func (p *plain) over() (seat, why int, over bool) {
	for _, e := range p.of(api.EventForfeit, 0) {
		return slices.Index(p.listed(), p.other(e.Player)), 3, true
	}
	for _, e := range p.of(api.EventResult, 0) {
		return slices.Index(p.listed(), e.Player), e.N, true
	}
	return 0, 0, false
}

func (p *plain) listed() []int {
	s := p.seats()
	return s[:]
}

func (p *plain) ended() bool {
	_, _, over := p.over()
	return over || p.state().Over
}

func (p *plain) status() contest.Status {
	s := contest.Status{Players: p.seats(), Seed: p.seed(), Open: p.isOpen()}
	for seat, player := range s.Players {
		if p.isOpen() {
			s.Lives[seat], s.Count[seat] = len(p.of(api.EventJoin, player)), p.count(player)
		}
	}
	s.Winner, s.Why, s.Over = p.over()
	return s
}

func (p *plain) owes(player int) bool {
	return p.isOpen() && !p.ended() && p.has(player) && p.count(player) <= p.count(p.other(player))
}

// formed tells whether an event has nothing where its kind names nothing.
func formed(e api.Event) bool {
	switch e.Kind {
	case 1:
		return e.Frame == 0 && e.In == 0
	case 2, 4:
		return e.Other == 0 && e.Frame == 0 && e.In == 0 && e.N == 0
	case 3:
		return e.Other == 0 && e.N == 0
	case 5:
		return e.Other == 0 && e.Frame == 0 && e.In == 0
	}
	return false
}

func (p *plain) may(e api.Event) api.Errno {
	switch {
	case !formed(e):
		return api.ErrForm
	case e.Kind == 1 && p.isOpen():
		return api.ErrState
	case e.Kind == 1 && (e.Player < 1 || e.Other < 1 || e.Player == e.Other || uint64(e.N) > math.MaxUint32):
		return api.ErrArg
	case e.Kind == 1:
		return api.OK
	case !p.isOpen():
		return api.ErrState
	case e.Kind == 5:
		return p.mayResult(e)
	case p.ended():
		return api.ErrOver
	case !p.has(e.Player):
		return api.ErrPlayer
	case e.Kind == 2 && len(p.of(2, e.Player)) == 100:
		return api.ErrLimit
	case e.Kind == 3:
		return p.mayInput(e)
	}
	return api.OK
}

func (p *plain) mayInput(e api.Event) api.Errno {
	own := p.inputs(e.Player, 0)
	switch {
	case e.Frame < 0 || e.Frame > p.g.Cap-1:
		return api.ErrArg
	case e.Frame < len(own) && own[e.Frame] == e.In:
		return api.ErrHas
	case e.Frame < len(own):
		return api.ErrOdd
	case e.Frame > len(own):
		return api.ErrWindow
	case e.Frame-p.count(p.other(e.Player)) >= 8:
		return api.ErrWindow
	}
	return api.OK
}

func (p *plain) mayResult(e api.Event) api.Errno {
	if _, _, over := p.over(); over {
		return api.ErrOver
	}
	s := p.state()
	if !s.Over {
		return api.ErrState
	}
	why := 1
	if s.Frame == p.g.Cap {
		why = 2
	}
	if e.Player != p.seats()[s.Winner%2] || e.N != why {
		return api.ErrOdd
	}
	return api.OK
}

func (p *plain) apply(e api.Event) api.Errno {
	err := p.may(e)
	if err == api.OK {
		p.taken = append(p.taken, e)
	}
	return err
}

// someone is players with and without a seat; the lowest digits of some are those of one who has one.
var someone = []int{7, 9, 8, 0, -1, -7, 1, 7 + 1<<32, 9 - 1<<32, math.MinInt, math.MaxInt}

// shown is all that can be asked of a match. A list without an element is nil here, whichever was answered.
type shown struct {
	status contest.Status
	events []api.Event
	pairs  []api.Pair
	state  api.State
	owes   []bool
	inputs [][]uint16
}

func list[T any](l []T) []T { return append([]T(nil), l...) }

// froms is frames to ask from, of one who has told so many.
func froms(n int) []int {
	return []int{math.MinInt, -1 << 32, -1, 0, 1, n / 2, n - 1, n, n + 1, 599, 600, 1 << 32, math.MaxInt - 1, math.MaxInt}
}

func look(c *contest.Contest) shown {
	s := shown{status: c.Status(), events: list(c.Events()), pairs: list(c.Pairs()), state: c.State()}
	for _, player := range someone {
		s.owes = append(s.owes, c.Owes(player))
		for _, from := range froms(max(s.status.Count[0], s.status.Count[1])) {
			s.inputs = append(s.inputs, list(c.Inputs(player, from)))
		}
	}
	return s
}

func (p *plain) look() shown {
	s := shown{status: p.status(), events: list(p.taken), pairs: list(p.pairs()), state: p.state()}
	for _, player := range someone {
		s.owes = append(s.owes, p.owes(player))
		for _, from := range froms(max(s.status.Count[0], s.status.Count[1])) {
			s.inputs = append(s.inputs, list(p.inputs(player, from)))
		}
	}
	return s
}

// stays tells whether a match is as it was shown.
func stays(t *testing.T, c *contest.Contest, was shown) {
	t.Helper()
	if now := look(c); !reflect.DeepEqual(now, was) {
		t.Fatalf("got %v, want %v", now, was)
	}
}

// both has an event asked and done, in the match and by the words alike.
func (p *plain) both(t *testing.T, c *contest.Contest, e api.Event) api.Errno {
	t.Helper()
	want := p.apply(e)
	for range 2 {
		if got := c.May(e); got != want {
			t.Fatalf("May(%v) behind %v: got %v, want %v", e, c.Events(), got, want)
		}
	}
	if got := c.Apply(e); got != want {
		t.Fatalf("Apply(%v) behind %v: got %v, want %v", e, c.Events(), got, want)
	}
	return want
}
