package vm_test

import (
	"math"
	"slices"
	"testing"

	"gauntlet/api"
	"gauntlet/code"
	"gauntlet/vm"
)

const (
	least    = math.MinInt32
	greatest = math.MaxInt32
)

// program is one by its text.
func program(t *testing.T, text string) []api.Ins {
	t.Helper()
	l, line, e := code.Parse(text)
	if e != api.OK {
		t.Fatalf("%q: line %d, %v", text, line, e)
	}
	return l
}

func push(n int) api.Ins { return api.Ins{Op: api.OpPush, Arg: n} }

func store(cell int) api.Ins { return api.Ins{Op: api.OpStore, Arg: cell} }

// pushes lays n numbers.
func pushes(n int) []api.Ins {
	return slices.Repeat([]api.Ins{push(3)}, n)
}

// marked is a program that first of all lays 5 into cell 9: by that a frame that did not fail is told.
func marked(l ...api.Ins) []api.Ins {
	return append([]api.Ins{push(5), store(9)}, l...)
}

// steps answers what Step says of a state that may go on.
func steps(t *testing.T, g api.Game, s api.State, in api.Pair) api.State {
	t.Helper()
	x, e := vm.Step(g, s, in)
	if e != api.OK {
		t.Fatalf("Step of %v: %v", s, e)
	}
	return x
}

func refuses(t *testing.T, g api.Game, s api.State, want api.Errno) {
	t.Helper()
	if x, e := vm.Step(g, s, api.Pair{1, 2}); e != want || x != (api.State{}) {
		t.Errorf("Step of %v with Cap %d, Fuel %d: got %v, %v, want nothing, %v", s, g.Cap, g.Fuel, x, e, want)
	}
}

// P10.1

var wrongSizes = []struct{ limit, fuel int }{
	{0, 1}, {-1, 1}, {601, 1}, {math.MinInt, 1}, {math.MaxInt, 1}, {1<<32 + 1, 1},
	{1, 0}, {1, -1}, {1, 2001}, {1, math.MinInt}, {1, math.MaxInt}, {1, 1<<32 + 1},
	{0, 0}, {601, 2001}, {2000, 600},
}

var rightSizes = []struct{ limit, fuel int }{
	{1, 1}, {2, 2}, {600, 1}, {1, 2000}, {600, 2000}, {599, 1999},
}

// wrongCode is programs that chapter 9 refuses.
var wrongCode = []struct {
	l    []api.Ins
	want api.Errno
}{
	{make([]api.Ins, 257), api.ErrLong},
	{slices.Repeat([]api.Ins{{Op: api.OpHalt}}, 257), api.ErrLong},
	{make([]api.Ins, 1), api.ErrForm},
	{[]api.Ins{{Op: 23}}, api.ErrForm},
	{[]api.Ins{{Op: -1}}, api.ErrForm},
	{[]api.Ins{{Op: math.MaxInt}}, api.ErrForm},
	{[]api.Ins{{Op: api.OpHalt}, {Op: api.OpAdd, Arg: 1}}, api.ErrForm},
	{[]api.Ins{push(greatest + 1)}, api.ErrForm},
	{[]api.Ins{push(least - 1)}, api.ErrForm},
	{[]api.Ins{{Op: api.OpLoad, Arg: 16}}, api.ErrForm},
	{[]api.Ins{{Op: api.OpLoad, Arg: -1}}, api.ErrForm},
	{[]api.Ins{push(0), store(16)}, api.ErrForm},
	{[]api.Ins{push(0), store(-1)}, api.ErrForm},
	{[]api.Ins{{Op: api.OpIn, Arg: 2}}, api.ErrForm},
	{[]api.Ins{{Op: api.OpIn, Arg: -1}}, api.ErrForm},
	{[]api.Ins{{Op: api.OpJump, Arg: 2}}, api.ErrForm},
	{[]api.Ins{{Op: api.OpJump, Arg: -1}}, api.ErrForm},
	{[]api.Ins{push(0), {Op: api.OpZero, Arg: 3}}, api.ErrForm},
	{[]api.Ins{{Op: api.OpWin, Arg: 3}}, api.ErrForm},
	{[]api.Ins{{Op: api.OpWin, Arg: -1}}, api.ErrForm},
}

func checks(t *testing.T, g api.Game, want api.Errno) {
	t.Helper()
	if e := vm.Check(g); e != want {
		t.Errorf("Check of %d instructions, Cap %d, Fuel %d: got %v, want %v", len(g.Code), g.Cap, g.Fuel, e, want)
	}
}

func TestCheckSizes(t *testing.T) {
	full := slices.Repeat([]api.Ins{{Op: api.OpHalt}}, 256)
	for _, l := range [][]api.Ins{nil, {}, marked(), full} {
		for _, x := range rightSizes {
			checks(t, api.Game{Code: l, Cap: x.limit, Fuel: x.fuel}, api.OK)
		}
		for _, x := range wrongSizes {
			checks(t, api.Game{Code: l, Cap: x.limit, Fuel: x.fuel}, api.ErrArg)
		}
	}
	checks(t, api.Game{}, api.ErrArg)
}

func TestCheckTellsTheCodeFirst(t *testing.T) {
	for _, c := range wrongCode {
		for _, x := range slices.Concat(rightSizes, wrongSizes) {
			checks(t, api.Game{Code: c.l, Cap: x.limit, Fuel: x.fuel}, c.want)
		}
	}
}

func TestStart(t *testing.T) {
	for seed, want := range map[uint32]uint32{0: 1, 1: 1, 2: 2, 77: 77, 1 << 31: 1 << 31, math.MaxUint32: math.MaxUint32} {
		if s := vm.Start(seed); s != (api.State{Seed: want}) {
			t.Errorf("Start(%d): %v", seed, s)
		}
	}
}

// P10.2: what may not be handed in

// noStates is what is no state, whatever the game is.
var noStates = []api.State{
	{Frame: -1}, {Frame: math.MinInt}, {Frame: 601}, {Frame: math.MaxInt}, {Frame: 1 << 32},
	{Winner: 1}, {Winner: 2}, {Winner: 3}, {Winner: -1}, {Frame: 600, Winner: 1},
	{Over: true, Winner: 3}, {Over: true, Winner: -1}, {Over: true, Winner: math.MinInt}, {Over: true, Winner: math.MaxInt},
	{Over: true, Frame: -1}, {Over: true, Frame: 601, Winner: 2}, {Over: true, Winner: 256},
}

// overStates is states that go on no more with a Cap of 5.
var overStates = []api.State{
	{Over: true}, {Over: true, Winner: 1}, {Over: true, Winner: 2}, {Over: true, Frame: 5, Winner: 1}, {Over: true, Frame: 600},
	{Frame: 5}, {Frame: 6}, {Frame: 599}, {Frame: 600},
}

func TestStepRefusesWhatIsNoState(t *testing.T) {
	g := api.Game{Code: marked(), Cap: 5, Fuel: 9}
	for _, s := range noStates {
		for _, seed := range []uint32{0, 1, math.MaxUint32} {
			s.Seed = seed
			refuses(t, g, s, api.ErrArg)
		}
	}
	refuses(t, g, api.State{}, api.ErrArg)
	for frame := range 5 {
		refuses(t, g, api.State{Frame: frame}, api.ErrArg)
	}
}

func TestStepRefusesWhatIsOver(t *testing.T) {
	g := api.Game{Code: marked(), Cap: 5, Fuel: 9}
	for _, s := range overStates {
		refuses(t, g, s, api.ErrArg) // Seed is 0: told first
		s.Seed = 1
		refuses(t, g, s, api.ErrOver)
		s.Seed = math.MaxUint32
		refuses(t, g, s, api.ErrOver)
	}
	for _, limit := range []int{1, 2, 599, 600} {
		g.Cap = limit
		refuses(t, g, api.State{Frame: limit, Seed: 1}, api.ErrOver)
		if s := steps(t, g, api.State{Frame: limit - 1, Seed: 1}, api.Pair{}); s.Frame != limit || !s.Over {
			t.Errorf("the last of %d frames: %v", limit, s)
		}
	}
}

func TestStepTellsTheGameFirst(t *testing.T) {
	states := slices.Concat(noStates, overStates, []api.State{{}, {Seed: 1}, {Seed: 1, Frame: 600}, {Seed: 1, Frame: -1}})
	for _, s := range states {
		for _, c := range wrongCode {
			refuses(t, api.Game{Code: c.l, Cap: 5, Fuel: 9}, s, c.want)
			refuses(t, api.Game{Code: c.l}, s, c.want)
		}
		for _, x := range wrongSizes {
			refuses(t, api.Game{Code: marked(), Cap: x.limit, Fuel: x.fuel}, s, api.ErrArg)
		}
	}
}

// P10.2: how a frame ends

// before is a state of which each field would show a change.
func before(frame int) api.State {
	s := api.State{Frame: frame, Seed: 0x9e3779b9}
	for i := range s.Cells {
		s.Cells[i] = int32(100 - 7*i)
	}
	s.Cells[1] = s.Cells[0] + 1 // so that 1 would win by the cap
	return s
}

func TestEnds(t *testing.T) {
	for _, x := range []struct {
		text   string
		over   bool
		winner int
	}{
		{"push 5\nstore 9\n", false, 0},
		{"push 5\nstore 9\nhalt\npush 6\nstore 9\n", false, 0},
		{"push 5\nstore 9\nhalt\nadd\n", false, 0},
		{"push 5\nstore 9\njump 6\npush 6\nstore 9\nhalt\n", false, 0},
		{"push 5\nstore 9\njump 3\n", false, 0},
		{"push 5\nstore 9\npush 0\nzero 6\npush 6\nstore 9\n", false, 0},
		{"push 5\nstore 9\nwin 0\npush 6\nstore 9\n", true, 0},
		{"push 5\nstore 9\nwin 1\npush 6\nstore 9\n", true, 1},
		{"push 5\nstore 9\nwin 2\nadd\n", true, 2},
		{"push 5\nstore 9\nwin 2\nwin 1\n", true, 2},
		{"push 5\nstore 9\npush 1\npush 2\npush 3\n", false, 0},
	} {
		want := before(3)
		want.Frame, want.Cells[9], want.Over, want.Winner = 4, 5, x.over, x.winner
		g := api.Game{Code: program(t, x.text), Cap: 9, Fuel: 2000}
		if s := steps(t, g, before(3), api.Pair{}); s != want {
			t.Errorf("%q: got %v, want %v", x.text, s, want)
		}
	}
}

func TestNoInstruction(t *testing.T) {
	for _, l := range [][]api.Ins{nil, {}} {
		g := api.Game{Code: l, Cap: 9, Fuel: 1}
		want := before(3)
		want.Frame = 4
		if s := steps(t, g, before(3), api.Pair{4, 5}); s != want {
			t.Errorf("got %v, want %v", s, want)
		}
	}
}

func TestTheStackIsEmptyInEachFrame(t *testing.T) {
	g := api.Game{Code: program(t, "frame\nzero 3\nstore 9\npush 1\npush 2\n"), Cap: 9, Fuel: 99}
	s := steps(t, g, vm.Start(1), api.Pair{})
	if s = steps(t, g, s, api.Pair{}); s != (api.State{Frame: 2, Seed: 1}) {
		t.Errorf("a number of another frame was found: %v", s)
	}
}

// takes is a program, marked, that takes just n instructions, n from 7 on.
func takes(n int) []api.Ins {
	rounds := (n - 2) / 5
	l := marked(push(rounds), push(1), api.Ins{Op: api.OpSub}, api.Ins{Op: api.OpDup}, api.Ins{Op: api.OpZero, Arg: 8}, api.Ins{Op: api.OpJump, Arg: 3})
	for range (n - 2) % 5 {
		l = append(l, api.Ins{Op: api.OpJump, Arg: len(l) + 1})
	}
	return l
}

// fits tells that a program ends well with so much Fuel, and fails with 1 less.
func fits(t *testing.T, l []api.Ins, fuel int) {
	t.Helper()
	if s := steps(t, api.Game{Code: l, Cap: 9, Fuel: fuel}, vm.Start(1), api.Pair{}); s.Cells[9] != 5 || s.Frame != 1 {
		t.Errorf("%d instructions with as much Fuel: %v", fuel, s)
	}
	if s := steps(t, api.Game{Code: l, Cap: 9, Fuel: fuel - 1}, vm.Start(1), api.Pair{}); s != (api.State{Frame: 1, Seed: 1}) {
		t.Errorf("%d instructions with 1 less of Fuel: %v", fuel, s)
	}
}

func TestFuel(t *testing.T) {
	fits(t, program(t, "push 5\nstore 9\n"), 2)
	fits(t, program(t, "push 5\nstore 9\nhalt\n"), 3)
	fits(t, program(t, "push 5\nstore 9\nhalt\nadd\n"), 3)
	fits(t, program(t, "push 5\nstore 9\nwin 1\n"), 3)
	fits(t, program(t, "push 5\nstore 9\njump 5\nadd\nadd\n"), 3)
	fits(t, program(t, "push 5\nstore 9\npush 0\nzero 5\nadd\n"), 4)
	for n := 0; n <= 254; n++ {
		fits(t, marked(slices.Repeat([]api.Ins{push(1), {Op: api.OpDrop}}, 127)[:n]...), n+2)
	}
	for n := 7; n <= 2000; n++ {
		fits(t, takes(n), n)
	}
	for _, n := range []int{2001, 2002, 3000, 100000} {
		if s := steps(t, api.Game{Code: takes(n), Cap: 9, Fuel: 2000}, vm.Start(1), api.Pair{}); s != (api.State{Frame: 1, Seed: 1}) {
			t.Errorf("%d instructions: %v", n, s)
		}
	}
}

func TestWithoutAnEnd(t *testing.T) {
	for _, text := range []string{"jump 0\n", "push 5\nstore 9\njump 0\n", "push 0\nzero 0\n", "rand\nstore 3\njump 0\nwin 1\n", "push 1\njump 0\n"} {
		for _, fuel := range []int{1, 2, 3, 1999, 2000} {
			want := before(2)
			want.Frame = 3
			if s := steps(t, api.Game{Code: program(t, text), Cap: 9, Fuel: fuel}, before(2), api.Pair{}); s != want {
				t.Errorf("%q with Fuel %d: got %v, want %v", text, fuel, s, want)
			}
		}
	}
}

// turnover is how many numbers each op takes from the stack, and how many it lays.
var turnover = []struct{ op, takes, lays int }{
	{api.OpPush, 0, 1}, {api.OpLoad, 0, 1}, {api.OpStore, 1, 0},
	{api.OpAdd, 2, 1}, {api.OpSub, 2, 1}, {api.OpMul, 2, 1}, {api.OpDiv, 2, 1},
	{api.OpMin, 2, 1}, {api.OpMax, 2, 1}, {api.OpLess, 2, 1}, {api.OpSame, 2, 1}, {api.OpNot, 1, 1},
	{api.OpDup, 1, 2}, {api.OpSwap, 2, 2}, {api.OpDrop, 1, 0},
	{api.OpIn, 0, 1}, {api.OpFrame, 0, 1}, {api.OpJump, 0, 0}, {api.OpZero, 1, 0},
	{api.OpWin, 0, 0}, {api.OpRand, 0, 1}, {api.OpHalt, 0, 0},
}

func TestStack(t *testing.T) {
	for _, x := range turnover {
		for high := 0; high <= 32; high++ {
			l := marked(append(pushes(high), api.Ins{Op: x.op})...)
			if x.op == api.OpJump || x.op == api.OpZero {
				l[len(l)-1].Arg = len(l)
			}
			well := high >= x.takes && high-x.takes+x.lays <= 32
			s := steps(t, api.Game{Code: l, Cap: 9, Fuel: 2000}, vm.Start(1), api.Pair{})
			if well != (s.Cells[9] == 5) {
				t.Errorf("op %d on a stack of %d: %v", x.op, high, s)
			}
			if !well && s != (api.State{Frame: 1, Seed: 1}) {
				t.Errorf("op %d fails on a stack of %d, and does something: %v", x.op, high, s)
			}
		}
	}
}

func TestHowMuchIsLaid(t *testing.T) {
	for _, x := range turnover {
		if x.op == api.OpJump || x.op == api.OpWin || x.op == api.OpHalt {
			continue
		}
		for _, drops := range []int{0, 1} {
			l := marked(append(pushes(4), api.Ins{Op: x.op})...)
			if x.op == api.OpZero {
				l[len(l)-1].Arg = len(l)
			}
			l = append(l, slices.Repeat([]api.Ins{{Op: api.OpDrop}}, 4-x.takes+x.lays+drops)...)
			s := steps(t, api.Game{Code: l, Cap: 9, Fuel: 2000}, vm.Start(1), api.Pair{})
			if (drops == 0) != (s.Cells[9] == 5) {
				t.Errorf("op %d, and all of its numbers dropped, and %d more: %v", x.op, drops, s)
			}
		}
	}
}

func TestFullStack(t *testing.T) {
	well := marked(append(pushes(32), slices.Repeat([]api.Ins{{Op: api.OpDrop}, push(7)}, 40)...)...)
	if s := steps(t, api.Game{Code: append(well, store(9)), Cap: 9, Fuel: 2000}, vm.Start(1), api.Pair{}); s.Cells[9] != 7 {
		t.Errorf("32 numbers: %v", s)
	}
	beyond := append(marked(pushes(33)...), api.Ins{Op: api.OpWin, Arg: 1})
	if s := steps(t, api.Game{Code: beyond, Cap: 9, Fuel: 2000}, before(0), api.Pair{}); s.Cells != before(0).Cells || s.Over || s.Frame != 1 {
		t.Errorf("33 numbers: %v", s)
	}
}

// P10.2: the last frame

func TestLastFrame(t *testing.T) {
	for _, x := range []struct {
		first, second int32
		winner        int
	}{
		{0, 0, 2}, {1, 0, 0}, {0, 1, 1}, {-1, 0, 1}, {0, -1, 0}, {-5, -5, 2}, {-5, -6, 0}, {-6, -5, 1},
		{greatest, greatest - 1, 0}, {greatest, least, 0}, {least, greatest, 1}, {least, least, 2}, {greatest, greatest, 2}, {least, least + 1, 1},
	} {
		l := []api.Ins{push(int(x.first)), store(0), push(int(x.second)), store(1)}
		for _, limit := range []int{1, 2, 600} {
			g := api.Game{Code: l, Cap: limit, Fuel: 4}
			want := before(limit - 1)
			want.Frame, want.Cells[0], want.Cells[1], want.Over, want.Winner = limit, x.first, x.second, true, x.winner
			if s := steps(t, g, before(limit-1), api.Pair{}); s != want {
				t.Errorf("Cap %d: got %v, want %v", limit, s, want)
			}
			if limit < 2 {
				continue
			}
			want.Frame, want.Over, want.Winner = limit-1, false, 0
			if s := steps(t, g, before(limit-2), api.Pair{}); s != want {
				t.Errorf("Cap %d, one frame ahead: got %v, want %v", limit, s, want)
			}
		}
	}
}

func TestWinInTheLastFrame(t *testing.T) {
	for who := range 3 {
		for frame := range 3 {
			g := api.Game{Code: []api.Ins{{Op: api.OpWin, Arg: who}}, Cap: 3, Fuel: 1}
			want := before(frame)
			want.Frame, want.Over, want.Winner = frame+1, true, who
			if s := steps(t, g, before(frame), api.Pair{}); s != want {
				t.Errorf("win %d in frame %d: got %v, want %v", who, frame, s, want)
			}
		}
	}
}

func TestAFrameThatFails(t *testing.T) {
	for _, x := range []struct {
		text string
		fuel int
	}{
		{"rand\nstore 0\npush 900\nstore 1\nrand\nstore 15\nadd\nwin 0\n", 2000},
		{"rand\nstore 0\npush 900\nstore 0\nwin 0\n", 4},
		{"rand\nstore 5\nwin 0\n", 1},
		{"rand\nstore 5\njump 0\nwin 0\n", 2000},
		{"rand\njump 0\nwin 0\n", 2000},
		{"push 900\nstore 0\nstore 0\nwin 0\n", 2000},
		{"push 900\nstore 0\ndup\nwin 0\n", 2000},
	} {
		g := api.Game{Code: program(t, x.text), Cap: 4, Fuel: x.fuel}
		want := before(2)
		want.Frame = 3
		s := steps(t, g, before(2), api.Pair{7, 8})
		if s != want {
			t.Errorf("%q: got %v, want %v", x.text, s, want)
		}
		want.Frame, want.Over, want.Winner = 4, true, 1
		if s = steps(t, g, s, api.Pair{7, 8}); s != want {
			t.Errorf("%q in the last frame: got %v, want %v", x.text, s, want)
		}
		refuses(t, g, s, api.ErrOver)
	}
}

func TestAWholeGame(t *testing.T) {
	g := api.Game{Code: program(t, "load 0\nin 0\nadd\nstore 0\nload 1\nin 1\nadd\nstore 1\n"), Cap: 600, Fuel: 8}
	s := vm.Start(0)
	for frame := range 600 {
		if s.Over || s.Frame != frame || s.Cells[0] != int32(3*frame) || s.Cells[1] != int32(4*frame) {
			t.Fatalf("ahead of frame %d: %v", frame, s)
		}
		s = steps(t, g, s, api.Pair{3, 4})
	}
	if !s.Over || s.Winner != 1 || s.Frame != 600 {
		t.Errorf("at the end: %v", s)
	}
	refuses(t, g, s, api.ErrOver)
}
