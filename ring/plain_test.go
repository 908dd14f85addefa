package ring_test

import (
	"math"
	"testing"

	"gauntlet/api"
	"gauntlet/ring"
)

// plain is the words of P13.1 and P13.2 over a list of states, in no order, gone through each time.
type plain struct {
	n     int
	there []api.State
}

// isState is the words of chapter 10.
func isState(s api.State) bool {
	if s.Frame < 0 || s.Frame > 600 {
		return false
	}
	if !s.Over {
		return s.Winner == 0
	}
	return s.Winner == 0 || s.Winner == 1 || s.Winner == 2
}

func (p *plain) frames() (least, greatest int) {
	if len(p.there) == 0 {
		return -1, -1
	}
	least, greatest = p.there[0].Frame, p.there[0].Frame
	for _, s := range p.there {
		least, greatest = min(least, s.Frame), max(greatest, s.Frame)
	}
	return least, greatest
}

// forget leaves those of which this does not hold.
func (p *plain) forget(gone func(frame int) bool) {
	var l []api.State
	for _, s := range p.there {
		if !gone(s.Frame) {
			l = append(l, s)
		}
	}
	p.there = l
}

func (p *plain) put(s api.State) api.Errno {
	if !isState(s) {
		return api.ErrArg
	}
	least, greatest := p.frames()
	if len(p.there) > 0 && (s.Frame > greatest && s.Frame != greatest+1 || s.Frame < least) {
		return api.ErrArg
	}
	p.forget(func(frame int) bool { return frame >= s.Frame })
	p.there = append(p.there, s)
	if len(p.there) > p.n {
		least, _ := p.frames()
		p.forget(func(frame int) bool { return frame == least })
	}
	return api.OK
}

func (p *plain) get(frame int) (api.State, bool) {
	for _, s := range p.there {
		if s.Frame == frame {
			return s, true
		}
	}
	return api.State{}, false
}

func (p *plain) newest() (api.State, bool) {
	_, greatest := p.frames()
	return p.get(greatest)
}

// farFrames is frames that no state has; the lowest digits of some are those of one that has.
var farFrames = []int{math.MinInt, math.MinInt + 1, -1 << 32, -1<<32 + 1, -1 << 16, -600, -257, -256, -2, -1, 601, 602, 1 << 16, 1<<16 + 1, 1 << 32, 1<<32 + 1, 1<<32 + 600, math.MaxInt - 1, math.MaxInt}

// answers tells whether each call but Put answers as the words have it.
func (p *plain) answers(t *testing.T, r *ring.Ring) {
	t.Helper()
	least, greatest := p.frames()
	frames(t, r, least, greatest)
	want, ok := p.newest()
	newest(t, r, want, ok)
	for _, frame := range farFrames {
		get(t, r, frame, api.State{}, false)
	}
	for frame := range 601 {
		want, ok := p.get(frame)
		get(t, r, frame, want, ok)
	}
}

// drawn is a row of numbers that look drawn by chance, the same each time.
type drawn uint64

func (d *drawn) below(n int) int {
	*d = *d*6364136223846793005 + 1442695040888963407
	return int(uint64(*d)>>33) % n
}

// state is one of a frame, with whatever a state can have.
func (d *drawn) state(frame int) api.State {
	s := api.State{Frame: frame, Seed: uint32(d.below(1 << 31)), Over: d.below(4) == 0}
	for i := range s.Cells {
		s.Cells[i] = int32(uint32(d.below(1<<31)) * 2)
	}
	if s.Over {
		s.Winner = d.below(3)
	}
	return s
}

// next is what is handed in next: mostly what can be taken.
func (d *drawn) next(p *plain) api.State {
	least, greatest := p.frames()
	switch x := d.below(16); {
	case len(p.there) == 0:
		return d.state(d.below(602) - 1)
	case x < 9:
		return d.state(greatest + 1)
	case x < 12:
		return d.state(least + d.below(greatest-least+1))
	case x < 14:
		return d.state(least - 2 + d.below(greatest-least+6))
	case x == 14:
		return d.state(farFrames[d.below(len(farFrames))])
	}
	s := d.state(greatest)
	s.Winner = d.below(7) - 2
	return s
}
