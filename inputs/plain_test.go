package inputs_test

import (
	"math"
	"slices"
	"testing"

	"gauntlet/api"
	"gauntlet/inputs"
)

// fact is that a player does so in a frame.
type fact struct {
	player, frame int
	in            uint16
}

// plain is the words of P12.1 and P12.2 over a list of what was told, gone through each time.
type plain struct {
	frames int
	told   []fact
}

func isPlayer(player int) bool { return player == 0 || player == 1 }

// at is what is known of a frame itself.
func (p *plain) at(player, frame int) (uint16, bool) {
	for _, x := range p.told {
		if x.player == player && x.frame == frame {
			return x.in, true
		}
	}
	return 0, false
}

func (p *plain) put(x fact) api.Errno {
	if !isPlayer(x.player) || x.frame < 0 || x.frame >= p.frames {
		return api.ErrArg
	}
	switch in, ok := p.at(x.player, x.frame); {
	case ok && in == x.in:
		return api.ErrHas
	case ok:
		return api.ErrOdd
	}
	p.told = append(p.told, x)
	return api.OK
}

func (p *plain) get(player, frame int) (uint16, bool) {
	if in, ok := p.at(player, frame); ok {
		return in, true
	}
	guess := fact{frame: -1}
	for _, x := range p.told {
		if x.player == player && x.frame < frame && x.frame > guess.frame {
			guess = x
		}
	}
	return guess.in, false
}

func (p *plain) known(player int) int {
	for frame := range p.frames {
		if _, ok := p.at(player, frame); !ok {
			return frame
		}
	}
	if isPlayer(player) {
		return p.frames
	}
	return 0
}

func (p *plain) pairs() []api.Pair {
	var l []api.Pair
	for frame := range p.frames {
		first, ok := p.at(0, frame)
		second, ok2 := p.at(1, frame)
		if !ok || !ok2 {
			break
		}
		l = append(l, api.Pair{first, second})
	}
	return l
}

// noPlayers is players that are none; the lowest digits of some are those of one that is.
var noPlayers = []int{math.MinInt, -1 << 32, -256, -2, -1, 2, 3, 255, 256, 257, 1 << 16, 1 << 32, 1<<32 + 1, math.MaxInt - 1, math.MaxInt}

// someFrames is frames in and around a Queue of so many.
func someFrames(frames int) []int {
	l := []int{math.MinInt, math.MinInt + 1, -1 << 32, -1 << 16, -frames, math.MaxInt - 1, math.MaxInt, 1 << 16, 1 << 32, 1<<32 + 1, 2 * frames}
	for i := -2; i < frames+3; i++ {
		l = append(l, i)
	}
	return l
}

// answers tells whether each call but Put answers as the words have it.
func (p *plain) answers(t *testing.T, q *inputs.Queue) {
	t.Helper()
	for _, player := range append([]int{0, 1}, noPlayers...) {
		for _, frame := range someFrames(p.frames) {
			want, wantOK := p.get(player, frame)
			if in, ok := q.Get(player, frame); in != want || ok != wantOK {
				t.Fatalf("%v: Get(%d, %d): got %d, %v, want %d, %v", p, player, frame, in, ok, want, wantOK)
			}
		}
		if n, want := q.Known(player), p.known(player); n != want {
			t.Fatalf("%v: Known(%d): got %d, want %d", p, player, n, want)
		}
	}
	want := p.pairs()
	if l := q.Pairs(); !slices.Equal(l, want) {
		t.Fatalf("%v: Pairs: got %v, want %v", p, l, want)
	}
	if n := q.Both(); n != len(want) {
		t.Fatalf("%v: Both: got %d, want %d", p, n, len(want))
	}
}

// drawn is a row of numbers that look drawn by chance, the same each time.
type drawn uint64

func (d *drawn) below(n int) int {
	*d = *d*6364136223846793005 + 1442695040888963407
	return int(uint64(*d)>>33) % n
}

// input has mostly small ones, so that the same is told again.
func (d *drawn) input() uint16 {
	if d.below(4) == 0 {
		return uint16(d.below(65536))
	}
	return uint16(d.below(2))
}

// fact is mostly one that a Queue of so many frames can take.
func (d *drawn) fact(frames int) fact {
	x := fact{d.below(2), d.below(frames), d.input()}
	if d.below(16) == 0 {
		x.player = noPlayers[d.below(len(noPlayers))]
	}
	if d.below(16) == 0 {
		l := someFrames(frames)
		x.frame = l[d.below(len(l))]
	}
	return x
}

func shuffle[T any](d *drawn, l []T) {
	for i := len(l) - 1; i > 0; i-- {
		j := d.below(i + 1)
		l[i], l[j] = l[j], l[i]
	}
}
