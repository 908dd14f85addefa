package rollback_test

import (
	"math"
	"testing"

	"gauntlet/api"
	"gauntlet/duel"
	"gauntlet/rollback"
)

// plain is the words of the chapter over what was told: each state is played anew from the first frame on.
type plain struct {
	g            api.Game
	seed         uint32
	me           int
	mine         []uint16
	theirs       map[int]uint16
	steps, wrong int
}

func newPlain(g api.Game, seed uint32, me int) *plain {
	return &plain{g: g, seed: seed, me: me, theirs: map[int]uint16{}}
}

// guess is what is known of the other one in a frame, or in the greatest below it.
func (p *plain) guess(frame int) uint16 {
	for ; frame >= 0; frame-- {
		if in, ok := p.theirs[frame]; ok {
			return in
		}
	}
	return 0
}

// behind is the state behind so many frames, by what is used of each.
func (p *plain) behind(frames int) api.State {
	in := make([]api.Pair, frames)
	for frame := range in {
		in[frame][p.me] = p.mine[frame]
		in[frame][1-p.me] = p.guess(frame)
	}
	s, e := duel.Play(p.g, p.seed, in)
	if e != api.OK {
		panic(e)
	}
	return s
}

func (p *plain) now() api.State { return p.behind(len(p.mine)) }

func (p *plain) needs() int {
	for frame := 0; ; frame++ {
		if _, ok := p.theirs[frame]; !ok {
			return frame
		}
	}
}

func (p *plain) sure() api.State { return p.behind(min(p.needs(), len(p.mine))) }

func (p *plain) local(in uint16) (int, api.Errno) {
	if p.now().Over {
		return 0, api.ErrOver
	}
	if len(p.mine)-p.sure().Frame >= 8 {
		return 0, api.ErrWindow
	}
	p.mine = append(p.mine, in)
	p.steps++
	return len(p.mine) - 1, api.OK
}

func (p *plain) remote(frame int, in uint16) api.Errno {
	if frame < 0 || frame > p.g.Cap-1 {
		return api.ErrArg
	}
	if p.sure().Over {
		return api.ErrOver
	}
	if frame-p.sure().Frame > 16+8 {
		return api.ErrWindow
	}
	switch was, ok := p.theirs[frame]; {
	case ok && was == in:
		return api.ErrHas
	case ok:
		return api.ErrOdd
	}
	wrong := frame < p.now().Frame && p.guess(frame) != in
	p.theirs[frame] = in
	if wrong {
		p.wrong++
		p.steps += p.now().Frame - frame
	}
	return api.OK
}

// answers tells whether each call that only asks answers as the words have it.
func (p *plain) answers(t *testing.T, s *rollback.Session) {
	t.Helper()
	if now, want := s.Now(), p.now(); now != want {
		t.Fatalf("Now: got %v, want %v", now, want)
	}
	if sure, want := s.Sure(), p.sure(); sure != want {
		t.Fatalf("Sure: got %v, want %v", sure, want)
	}
	if steps, wrong := s.Work(); steps != p.steps || wrong != p.wrong {
		t.Fatalf("Work: got %d, %d, want %d, %d", steps, wrong, p.steps, p.wrong)
	}
	if n, want := s.Needs(), p.needs(); n != want {
		t.Fatalf("Needs: got %d, want %d", n, want)
	}
}

// both has a thing done to the session and to the words alike; what they answered.
func (p *plain) both(t *testing.T, s *rollback.Session, x call) api.Errno {
	t.Helper()
	if x.local {
		frame, e := s.Local(x.in)
		wantFrame, want := p.local(x.in)
		if frame != wantFrame || e != want {
			t.Fatalf("Local(%d): got %d, %v, want %d, %v", x.in, frame, e, wantFrame, want)
		}
		return e
	}
	e := s.Remote(x.frame, x.in)
	if want := p.remote(x.frame, x.in); e != want {
		t.Fatalf("Remote(%d, %d): got %v, want %v", x.frame, x.in, e, want)
	}
	return e
}

// call is one of Local, or one of Remote.
type call struct {
	local bool
	frame int
	in    uint16
}

// farFrames is frames that no game has; the lowest digits of some are those of one that a game has.
var farFrames = []int{math.MinInt, math.MinInt + 1, -1 << 32, -1<<32 + 1, -1 << 16, -600, -2, -1, 600, 601, 1 << 16, 1<<16 + 1, 1 << 32, 1<<32 + 1, math.MaxInt - 24, math.MaxInt - 1, math.MaxInt}

// drawn is a row of numbers that look drawn by chance, the same each time.
type drawn uint64

func (d *drawn) below(n int) int {
	*d = *d*6364136223846793005 + 1442695040888963407
	return int(uint64(*d)>>33) % n
}

// input has mostly small ones, so that guesses are right now and then.
func (d *drawn) input() uint16 {
	if d.below(8) == 0 {
		return uint16(d.below(65536))
	}
	return uint16(d.below(3))
}

// call is mostly one that is taken.
func (d *drawn) call(p *plain) call {
	x := call{local: d.below(2) == 0, in: d.input()}
	switch d.below(20) {
	case 0:
		x.frame = farFrames[d.below(len(farFrames))]
	case 1:
		x.frame = p.sure().Frame + 20 + d.below(8)
	case 2:
		x.frame = d.below(p.g.Cap)
	case 3, 4, 5, 6, 7, 8:
		x.frame = min(p.needs(), p.g.Cap-1)
	default:
		x.frame = min(p.needs()+d.below(8), p.g.Cap-1)
	}
	return x
}

// piece is instructions that leave the stack as it was, but now and then one that finds too little on it.
func (d *drawn) piece(at int) []api.Ins {
	cell := func(op int) api.Ins { return api.Ins{Op: op, Arg: d.below(4)} }
	in := api.Ins{Op: api.OpIn, Arg: d.below(2)}
	switch d.below(10) {
	case 0:
		return []api.Ins{{Op: api.OpRand}, cell(api.OpStore)}
	case 1:
		return []api.Ins{{Op: api.OpFrame}, cell(api.OpStore)}
	case 2:
		return d.won(at)
	case 3: // fails, if a player does nothing
		return []api.Ins{in, {Op: api.OpNot}, {Op: api.OpZero, Arg: at + 4}, {Op: api.OpDrop}}
	case 4: // goes on for ever, if a player does nothing
		return []api.Ins{in, {Op: api.OpZero, Arg: at}}
	case 5: // hangs on the order of what was done
		return []api.Ins{{Op: api.OpLoad, Arg: 1}, {Op: api.OpPush, Arg: 98304}, {Op: api.OpMul}, in, {Op: api.OpAdd}, {Op: api.OpStore, Arg: 1}}
	}
	return []api.Ins{cell(api.OpLoad), in, {Op: api.OpAdd + d.below(8)}, cell(api.OpStore)}
}

// won is instructions by which a player wins who does so much in a frame behind so many.
func (d *drawn) won(at int) []api.Ins {
	return []api.Ins{{Op: api.OpIn, Arg: d.below(2)}, {Op: api.OpPush, Arg: d.below(3)}, {Op: api.OpSame}, {Op: api.OpPush, Arg: d.below(10)}, {Op: api.OpFrame}, {Op: api.OpLess}, {Op: api.OpMul}, {Op: api.OpZero, Arg: at + 9}, {Op: api.OpWin, Arg: d.below(3)}}
}

// game is one that Check takes.
func (d *drawn) game() api.Game {
	var l []api.Ins
	if d.below(2) == 0 {
		l = d.won(0)
	}
	for range d.below(6) {
		l = append(l, d.piece(len(l))...)
	}
	g := api.Game{Code: l, Cap: 1 + d.below(40), Fuel: 1 + d.below(200)}
	if d.below(6) == 0 {
		g.Cap, g.Fuel = 600-d.below(3), 2000-d.below(3)
	}
	return g
}

func shuffle[T any](d *drawn, l []T) {
	for i := len(l) - 1; i > 0; i-- {
		j := d.below(i + 1)
		l[i], l[j] = l[j], l[i]
	}
}
