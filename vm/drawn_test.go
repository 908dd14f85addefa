package vm_test

import (
	"testing"

	"gauntlet/api"
	"gauntlet/vm"
)

// drawn is a row of numbers that look drawn by chance, the same each time.
type drawn uint64

func (d *drawn) below(n int) int {
	*d = *d*6364136223846793005 + 1442695040888963407
	return int(uint64(*d)>>33) % n
}

// number has as many great numbers as small ones, of both signs.
func (d *drawn) number() int32 {
	return int32(d.below(1<<31)<<1|d.below(2)) >> d.below(32)
}

// arg is an argument that an op may have in a program of n instructions.
func (d *drawn) arg(op, n int) int {
	switch op {
	case api.OpPush:
		return int(d.number())
	case api.OpLoad, api.OpStore:
		return d.below(16)
	case api.OpIn:
		return d.below(2)
	case api.OpWin:
		return d.below(3)
	case api.OpJump, api.OpZero:
		return d.below(n + 1)
	}
	return 0
}

// program is one of n instructions that mostly find what they take, at least where none jumps.
func (d *drawn) program(n int) []api.Ins {
	l := make([]api.Ins, n)
	high := 0
	for i := range l {
		x := turnover[d.below(22)]
		for x.takes > high && d.below(40) > 0 || high-x.takes+x.lays > 32 && d.below(4) > 0 {
			x = turnover[d.below(22)]
		}
		l[i] = api.Ins{Op: x.op, Arg: d.arg(x.op, n)}
		high = max(high-x.takes, 0) + x.lays
	}
	return l
}

// game is one that Check takes.
func (d *drawn) game() api.Game {
	n := d.below(30)
	if d.below(30) == 0 {
		n = 256 - d.below(3)
	}
	g := api.Game{Code: d.program(n), Cap: 1 + d.below(8), Fuel: 1 + d.below(60)}
	if d.below(4) == 0 {
		g.Cap, g.Fuel = 600-d.below(3), 2000-d.below(3)
	}
	return g
}

// state is a state, mostly one that is not over.
func (d *drawn) state() api.State {
	s := api.State{Frame: d.below(8), Seed: uint32(d.number())}
	if d.below(10) == 0 {
		s.Frame = 600 - d.below(3)
	}
	if d.below(10) == 0 {
		s.Over, s.Winner = true, d.below(3)
	}
	for i := range s.Cells {
		s.Cells[i] = d.number()
	}
	return s
}

func (d *drawn) pair() api.Pair {
	return api.Pair{uint16(d.below(65536)), uint16(d.below(65536))}
}

// P10.2 and P10.3, over whatever programs.

func TestAnyPrograms(t *testing.T) {
	d := drawn(12)
	failed, won, past := 0, 0, 0
	for range 30000 {
		g, s := d.game(), d.state()
		for range 4 {
			in := d.pair()
			want, wantErr := wantStep(g, s, in)
			got, e := vm.Step(g, s, in)
			if got != want || e != wantErr {
				t.Fatalf("Step(%v, %v, %v): got %v, %v, want %v, %v", g, s, in, got, e, want, wantErr)
			}
			if e != api.OK {
				break
			}
			switch _, ok := wantRun(g, s, in); {
			case !ok:
				failed++
			case got.Over && got.Frame < g.Cap:
				won++
			default:
				past++
			}
			s = got
		}
	}
	if failed < 5000 || won < 2000 || past < 5000 {
		t.Errorf("the programs are too much alike: %d failed, %d won, %d went on", failed, won, past)
	}
}

// What is neither a game nor a state makes nothing panic, and has its one error.
func TestAnyGamesAndStates(t *testing.T) {
	d := drawn(13)
	sizes := []int{-1 << 63, -1, 0, 1, 2, 5, 599, 600, 601, 2000, 2001, 1<<63 - 1}
	winners := []int{-1 << 63, -1, 0, 0, 0, 1, 2, 3, 1<<63 - 1}
	for range 50000 {
		g, s := d.game(), d.state()
		for i := range g.Code {
			if d.below(60) == 0 {
				g.Code[i] = api.Ins{Op: d.below(30) - 3, Arg: int(d.number())}
			}
		}
		if d.below(2) == 0 {
			g.Cap, g.Fuel = sizes[d.below(len(sizes))], sizes[d.below(len(sizes))]
		}
		if d.below(2) == 0 {
			s.Frame, s.Winner, s.Over = sizes[d.below(len(sizes))], winners[d.below(len(winners))], d.below(2) == 0
		}
		if got, want := vm.Check(g), wantCheck(g); got != want {
			t.Fatalf("Check(%v): got %v, want %v", g, got, want)
		}
		want, wantErr := wantStep(g, s, api.Pair{1, 2})
		if got, e := vm.Step(g, s, api.Pair{1, 2}); got != want || e != wantErr {
			t.Fatalf("Step(%v, %v): got %v, %v, want %v, %v", g, s, got, e, want, wantErr)
		}
	}
}
