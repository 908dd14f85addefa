package vm_test

import (
	"math"
	"slices"
	"testing"

	"gauntlet/api"
	"gauntlet/vm"
)

// P10.3

// leaves is what a program leaves in cell 0.
func leaves(t *testing.T, text string, s api.State, in api.Pair) int32 {
	t.Helper()
	g := api.Game{Code: append(marked(), program(t, text)...), Cap: 600, Fuel: 2000}
	s = steps(t, g, s, in)
	if s.Cells[9] != 5 {
		t.Fatalf("%q fails", text)
	}
	return s.Cells[0]
}

func TestOps(t *testing.T) {
	in := api.Pair{11, 22}
	for _, x := range []struct {
		text string
		want int32
	}{
		{"push 7\nstore 0\n", 7},
		{"push -7\nstore 0\n", -7},
		{"push 2147483647\nstore 0\n", greatest},
		{"push -2147483648\nstore 0\n", least},
		{"push 4\nstore 15\nload 15\nstore 0\n", 4},
		{"push 4\nstore 3\nload 2\nstore 0\n", 0},
		{"push 4\nstore 3\npush 6\nstore 3\nload 3\nstore 0\n", 6},
		{"push 1\npush 2\nstore 0\n", 2},
		{"push 7\npush 2\nadd\nstore 0\n", 9},
		{"push 2147483647\npush 1\nadd\nstore 0\n", greatest},
		{"push -2147483648\npush -1\nadd\nstore 0\n", least},
		{"push 7\npush 2\nsub\nstore 0\n", 5},
		{"push 2\npush 7\nsub\nstore 0\n", -5},
		{"push -2147483648\npush 1\nsub\nstore 0\n", least},
		{"push 0\npush -2147483648\nsub\nstore 0\n", greatest},
		{"push 98304\npush 98304\nmul\nstore 0\n", 147456},
		{"push -1\npush 1\nmul\nstore 0\n", -1},
		{"push -2147483648\npush -2147483648\nmul\nstore 0\n", greatest},
		{"push -2147483648\npush 2147483647\nmul\nstore 0\n", least},
		{"push 65536\npush 196608\ndiv\nstore 0\n", 21845},
		{"push 196608\npush 65536\ndiv\nstore 0\n", 196608},
		{"push -65536\npush 196608\ndiv\nstore 0\n", -21845},
		{"push 3\npush 0\ndiv\nstore 0\n", greatest},
		{"push -3\npush 0\ndiv\nstore 0\n", least},
		{"push 0\npush 0\ndiv\nstore 0\n", 0},
		{"push 0\npush 3\ndiv\nstore 0\n", 0},
		{"push -2147483648\npush -1\ndiv\nstore 0\n", greatest},
		{"push 3\npush -9\nmin\nstore 0\n", -9},
		{"push -9\npush 3\nmin\nstore 0\n", -9},
		{"push 3\npush -9\nmax\nstore 0\n", 3},
		{"push -9\npush 3\nmax\nstore 0\n", 3},
		{"push 3\npush 9\nless\nstore 0\n", 65536},
		{"push 9\npush 3\nless\nstore 0\n", 0},
		{"push 9\npush 9\nless\nstore 0\n", 0},
		{"push -2147483648\npush 2147483647\nless\nstore 0\n", 65536},
		{"push 9\npush 9\nsame\nstore 0\n", 65536},
		{"push 9\npush -9\nsame\nstore 0\n", 0},
		{"push 0\nnot\nstore 0\n", 65536},
		{"push 1\nnot\nstore 0\n", 0},
		{"push -1\nnot\nstore 0\n", 0},
		{"push 65536\nnot\nstore 0\n", 0},
		{"push 4\ndup\nadd\nstore 0\n", 8},
		{"push 4\npush 5\ndup\ndrop\nsub\nstore 0\n", -1},
		{"push 1\npush 2\nswap\nstore 0\n", 1},
		{"push 1\npush 2\nswap\ndrop\nstore 0\n", 2},
		{"push 1\npush 2\ndrop\nstore 0\n", 1},
		{"in 0\nstore 0\n", 11},
		{"in 1\nstore 0\n", 22},
		{"frame\nstore 0\n", 0},
	} {
		if got := leaves(t, x.text, vm.Start(1), in); got != x.want {
			t.Errorf("%q: got %d, want %d", x.text, got, x.want)
		}
	}
}

// ends is numbers of both signs, and what lies at the ends of what 32 digits hold.
var ends = []int32{0, 1, -1, 2, -2, 3, -7, 255, -256, 32767, 65535, 65536, 65537, -65535, -65536, -65537, 98304, -98304, 1 << 24, -1 << 24, 1 << 30, -1 << 30, greatest - 1, greatest, least + 1, least}

func TestTwoNumbers(t *testing.T) {
	d := drawn(10)
	numbers := slices.Clone(ends)
	for range 40 {
		numbers = append(numbers, d.number())
	}
	for _, op := range []int{api.OpAdd, api.OpSub, api.OpMul, api.OpDiv, api.OpMin, api.OpMax, api.OpLess, api.OpSame} {
		for _, b := range numbers {
			for _, a := range numbers {
				l := []api.Ins{push(77), push(int(b)), push(int(a)), {Op: op}, store(0), store(1)}
				s := steps(t, api.Game{Code: l, Cap: 9, Fuel: 6}, vm.Start(1), api.Pair{})
				if want := wantJoin(op, b, a); s.Cells[0] != want || s.Cells[1] != 77 {
					t.Fatalf("op %d of %d and %d: got %d, %d, want %d, 77", op, b, a, s.Cells[0], s.Cells[1], want)
				}
			}
		}
	}
}

func TestOneNumber(t *testing.T) {
	for _, n := range ends {
		l := []api.Ins{
			push(int(n)), {Op: api.OpNot}, store(0),
			push(int(n)), {Op: api.OpDup}, store(1), store(2),
			push(int(n)), push(8), {Op: api.OpSwap}, store(3), store(4),
			push(int(n)), push(8), {Op: api.OpDrop}, store(5),
		}
		s := steps(t, api.Game{Code: l, Cap: 9, Fuel: 99}, vm.Start(1), api.Pair{})
		want := api.State{Frame: 1, Seed: 1, Cells: [16]int32{wantTruth(n == 0), n, n, n, 8, n}}
		if s != want {
			t.Errorf("%d: got %v, want %v", n, s, want)
		}
	}
}

func TestCells(t *testing.T) {
	s := vm.Start(1)
	for i := range s.Cells {
		s.Cells[i] = ends[i]
	}
	for from := range s.Cells {
		for to := range s.Cells {
			want := s
			want.Frame, want.Cells[to] = 1, s.Cells[from]
			l := []api.Ins{{Op: api.OpLoad, Arg: from}, store(to)}
			if got := steps(t, api.Game{Code: l, Cap: 9, Fuel: 9}, s, api.Pair{}); got != want {
				t.Errorf("load %d, store %d: got %v, want %v", from, to, got, want)
			}
		}
	}
}

func TestIn(t *testing.T) {
	l := program(t, "in 0\nstore 4\nin 1\nstore 5\n")
	for _, x := range []api.Pair{{0, 0}, {0, 65535}, {65535, 0}, {65535, 65535}, {32767, 32768}, {1, 2}} {
		s := steps(t, api.Game{Code: l, Cap: 9, Fuel: 9}, vm.Start(1), x)
		if s.Cells[4] != int32(x[0]) || s.Cells[5] != int32(x[1]) {
			t.Errorf("%v: got %d, %d", x, s.Cells[4], s.Cells[5])
		}
	}
}

func TestFrame(t *testing.T) {
	g := api.Game{Code: program(t, "frame\nstore 4\n"), Cap: 600, Fuel: 9}
	for _, frame := range []int{0, 1, 2, 63, 64, 300, 598, 599} {
		if s := steps(t, g, api.State{Frame: frame, Seed: 1}, api.Pair{}); s.Cells[4] != int32(frame) || s.Frame != frame+1 {
			t.Errorf("frame %d: %v", frame, s)
		}
	}
}

func TestJumps(t *testing.T) {
	for _, x := range []struct {
		text string
		want int32
	}{
		{"jump 4\npush 1\nstore 0\npush 9\npush 4\nstore 0\n", 4},
		{"jump 3\npush 6\njump 5\npush 4\njump 1\nstore 0\n", 6},
		{"push 0\nzero 4\npush 1\nstore 0\npush 6\nstore 1\n", 0},
		{"push 1\nzero 4\npush 1\nstore 0\npush 6\nstore 1\n", 1},
		{"push -1\nzero 4\npush 1\nstore 0\n", 1},
		{"push 65536\nzero 4\npush 1\nstore 0\n", 1},
		{"push -2147483648\nzero 4\npush 1\nstore 0\n", 1},
		{"push 8\npush 0\nzero 3\nstore 0\n", 8},
		{"push 8\npush 2\nzero 3\nstore 0\n", 8},
	} {
		g := api.Game{Code: program(t, x.text), Cap: 9, Fuel: 99}
		want, e := wantStep(g, vm.Start(1), api.Pair{})
		s := steps(t, g, vm.Start(1), api.Pair{})
		if s.Cells[0] != x.want || s != want || e != api.OK {
			t.Errorf("%q: got %v, want %d in cell 0 of %v", x.text, s, x.want, want)
		}
	}
}

func TestZeroOfAnyNumber(t *testing.T) {
	for _, n := range ends {
		l := []api.Ins{push(int(n)), {Op: api.OpZero, Arg: 4}, push(1), store(0)}
		s := steps(t, api.Game{Code: l, Cap: 9, Fuel: 9}, vm.Start(1), api.Pair{})
		if jumped := s.Cells[0] == 0; jumped != (n == 0) {
			t.Errorf("zero of %d jumps: %v", n, jumped)
		}
	}
}

func TestRand(t *testing.T) {
	// The first numbers of xorshift by 13, 17, 5 from 1 on.
	known := []uint32{270369, 67634689, 2647435461, 307599695, 2398689233}
	once := api.Game{Code: program(t, "rand\nstore 0\n"), Cap: 600, Fuel: 2}
	s := vm.Start(0)
	for i, want := range known {
		if s = steps(t, once, s, api.Pair{}); s.Seed != want || s.Cells[0] != int32(want%65536) {
			t.Errorf("rand in frame %d: got %d, %d, want %d", i, s.Seed, s.Cells[0], want)
		}
	}
	several := api.Game{Code: program(t, "rand\nrand\nrand\nstore 2\nstore 1\nstore 0\n"), Cap: 600, Fuel: 6}
	s = steps(t, several, vm.Start(1), api.Pair{})
	if s.Seed != known[2] {
		t.Errorf("three times rand: the seed is %d", s.Seed)
	}
	for i := range 3 {
		if s.Cells[i] != int32(known[i]%65536) {
			t.Errorf("three times rand: %v", s.Cells)
		}
	}
	if s = steps(t, several, s, api.Pair{}); s.Cells[0] != int32(known[3]%65536) || s.Cells[1] != int32(known[4]%65536) {
		t.Errorf("rand in another frame: %v", s.Cells)
	}
}

func TestRandOfAnySeed(t *testing.T) {
	g := api.Game{Code: program(t, "rand\nstore 0\n"), Cap: 600, Fuel: 2}
	seeds := []uint32{1, 2, 3, 1 << 15, 1 << 16, 1<<19 - 1, 1 << 19, 1 << 31, math.MaxUint32, math.MaxUint32 - 1}
	d := drawn(11)
	for range 2000 {
		seeds = append(seeds, uint32(d.number()))
	}
	for _, seed := range seeds {
		if seed == 0 {
			continue
		}
		want := wantRand(seed)
		if s := steps(t, g, vm.Start(seed), api.Pair{}); s.Seed != want || s.Cells[0] != int32(want%65536) || s.Seed == 0 {
			t.Fatalf("rand of %d: got %d, %d, want %d", seed, s.Seed, s.Cells[0], want)
		}
	}
}
