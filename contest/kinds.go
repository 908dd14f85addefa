package contest

import (
	"math"

	"gauntlet/api"
	"gauntlet/duel"
	"gauntlet/vm"
)

const maxLives = 100 // how often one player may join

// kind is how events of one kind are taken.
type kind struct {
	only func(api.Event) api.Event           // with the fields that it names, and nothing in the others
	may  func(*Contest, api.Event) api.Errno // why there can't be such an event now
	do   func(*Contest, api.Event)           // one that may be
}

// kinds is each kind at its number, from EventOpen on.
func kinds() [api.EventResult]kind {
	return [...]kind{
		api.EventOpen - 1:    {only: openOnly, may: (*Contest).mayOpen, do: (*Contest).open},
		api.EventJoin - 1:    {only: playerOnly, may: (*Contest).mayJoin, do: (*Contest).join},
		api.EventInput - 1:   {only: inputOnly, may: (*Contest).mayInput, do: (*Contest).input},
		api.EventForfeit - 1: {only: playerOnly, may: (*Contest).mayPlay, do: (*Contest).forfeit},
		api.EventResult - 1:  {only: resultOnly, may: (*Contest).mayResult, do: (*Contest).result},
	}
}

// kindOf is an event's kind; false: it is of none, or has something in a field that its kind does not name.
func kindOf(e api.Event) (kind, bool) {
	all := kinds()
	if e.Kind < api.EventOpen || e.Kind > len(all) {
		return kind{}, false
	}
	k := all[e.Kind-1]
	return k, k.only(e) == e
}

func openOnly(e api.Event) api.Event {
	return api.Event{Kind: e.Kind, Player: e.Player, Other: e.Other, N: e.N}
}

func playerOnly(e api.Event) api.Event {
	return api.Event{Kind: e.Kind, Player: e.Player}
}

func inputOnly(e api.Event) api.Event {
	return api.Event{Kind: e.Kind, Player: e.Player, Frame: e.Frame, In: e.In}
}

func resultOnly(e api.Event) api.Event {
	return api.Event{Kind: e.Kind, Player: e.Player, N: e.N}
}

func (c *Contest) mayOpen(e api.Event) api.Errno {
	if c.status.Open {
		return api.ErrState
	}
	if e.Player < 1 || e.Other < 1 || e.Player == e.Other || e.N < 0 || e.N > math.MaxUint32 {
		return api.ErrArg
	}
	return api.OK
}

func (c *Contest) open(e api.Event) {
	seed := uint32(e.N)
	c.status = Status{Players: [2]int{e.Player, e.Other}, Seed: seed, Open: true}
	c.state = vm.Start(seed)
}

// mayPlay is what holds for whatever a player does.
func (c *Contest) mayPlay(e api.Event) api.Errno {
	if !c.status.Open {
		return api.ErrState
	}
	if c.ended() {
		return api.ErrOver
	}
	if _, ok := c.seat(e.Player); !ok {
		return api.ErrPlayer
	}
	return api.OK
}

func (c *Contest) mayJoin(e api.Event) api.Errno {
	if err := c.mayPlay(e); err != api.OK {
		return err
	}
	seat, _ := c.seat(e.Player)
	if c.status.Lives[seat] >= maxLives {
		return api.ErrLimit
	}
	return api.OK
}

func (c *Contest) join(e api.Event) {
	seat, _ := c.seat(e.Player)
	c.status.Lives[seat]++
}

func (c *Contest) mayInput(e api.Event) api.Errno {
	if err := c.mayPlay(e); err != api.OK {
		return err
	}
	if e.Frame < 0 || e.Frame >= c.game.Cap {
		return api.ErrArg
	}
	seat, _ := c.seat(e.Player)
	if was, told := c.known.Get(seat, e.Frame); told {
		return toldAlready(was, e.In)
	}
	if e.Frame > c.known.Known(seat) || e.Frame >= c.known.Known(1-seat)+api.MaxAhead {
		return api.ErrWindow
	}
	return api.OK
}

func toldAlready(was, in uint16) api.Errno {
	if was == in {
		return api.ErrHas
	}
	return api.ErrOdd
}

func (c *Contest) input(e api.Event) {
	seat, _ := c.seat(e.Player)
	c.known.Put(seat, e.Frame, e.In)
	c.step()
}

// step does the next frame, if both told what they do in it.
func (c *Contest) step() {
	var in api.Pair
	for seat := range in {
		did, told := c.known.Get(seat, c.state.Frame)
		if !told {
			return
		}
		in[seat] = did
	}
	if behind, e := vm.Step(c.game, c.state, in); e == api.OK {
		c.state = behind
	}
}

func (c *Contest) forfeit(e api.Event) {
	seat, _ := c.seat(e.Player)
	c.end(1-seat, api.WhyForfeit)
}

func (c *Contest) mayResult(e api.Event) api.Errno {
	if !c.status.Open {
		return api.ErrState
	}
	if c.status.Over {
		return api.ErrOver
	}
	winner, why, over := duel.Result(c.state, c.game)
	if !over {
		return api.ErrState
	}
	if e.Player != c.status.Players[winner] || e.N != why {
		return api.ErrOdd
	}
	return api.OK
}

func (c *Contest) result(e api.Event) {
	seat, _ := c.seat(e.Player)
	c.end(seat, e.N)
}

func (c *Contest) end(winner, why int) {
	c.status.Over, c.status.Winner, c.status.Why = true, winner, why
}
