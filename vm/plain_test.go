package vm_test

import (
	"math/big"

	"gauntlet/api"
	"gauntlet/code"
)

// Chapter 10 in its own words, by one switch and a list as the stack.

func wantCheck(g api.Game) api.Errno {
	if _, e := code.Check(g.Code); e != api.OK {
		return e
	}
	if g.Cap < 1 || g.Cap > 600 || g.Fuel < 1 || g.Fuel > 2000 {
		return api.ErrArg
	}
	return api.OK
}

func wantState(s api.State) bool {
	return s.Frame >= 0 && s.Frame <= 600 && s.Winner >= 0 && s.Winner <= 2 && (s.Over || s.Winner == 0)
}

func wantStep(g api.Game, s api.State, in api.Pair) (api.State, api.Errno) {
	if e := wantCheck(g); e != api.OK {
		return api.State{}, e
	}
	if !wantState(s) || s.Seed == 0 {
		return api.State{}, api.ErrArg
	}
	if s.Over || s.Frame >= g.Cap {
		return api.State{}, api.ErrOver
	}
	if next, ok := wantRun(g, s, in); ok {
		s = next
	}
	s.Frame++
	if s.Frame == g.Cap && !s.Over {
		s.Over = true
		switch {
		case s.Cells[0] == s.Cells[1]:
			s.Winner = 2
		case s.Cells[1] > s.Cells[0]:
			s.Winner = 1
		}
	}
	return s, api.OK
}

// wantRun is the state behind a program, without the frame's end; false: it failed.
func wantRun(g api.Game, s api.State, in api.Pair) (api.State, bool) {
	var stack []int32
	at := 0
	for used := 0; at < len(g.Code); used++ {
		x := g.Code[at]
		if used == g.Fuel || len(stack) < turnover[x.Op-1].takes {
			return s, false
		}
		at++
		rest, top := stack[:len(stack)-turnover[x.Op-1].takes], stack[len(stack)-turnover[x.Op-1].takes:]
		laid, to, end := wantDo(x, append([]int32(nil), top...), &s, in)
		stack = append(append([]int32(nil), rest...), laid...)
		if len(stack) > 32 {
			return s, false
		}
		if end {
			break
		}
		if to >= 0 {
			at = to
		}
	}
	return s, true
}

// wantDo is what an instruction lays for the numbers that it takes (the upmost is the last); the place to which it jumps, or -1; whether it is the last one.
func wantDo(x api.Ins, top []int32, s *api.State, in api.Pair) (laid []int32, to int, end bool) {
	switch x.Op {
	case api.OpPush:
		return []int32{int32(x.Arg)}, -1, false
	case api.OpLoad:
		return []int32{s.Cells[x.Arg]}, -1, false
	case api.OpStore:
		s.Cells[x.Arg] = top[0]
	case api.OpNot:
		return []int32{wantTruth(top[0] == 0)}, -1, false
	case api.OpDup:
		return []int32{top[0], top[0]}, -1, false
	case api.OpSwap:
		return []int32{top[1], top[0]}, -1, false
	case api.OpDrop:
	case api.OpIn:
		return []int32{int32(in[x.Arg])}, -1, false
	case api.OpFrame:
		return []int32{int32(s.Frame)}, -1, false
	case api.OpJump:
		return nil, x.Arg, false
	case api.OpZero:
		if top[0] == 0 {
			return nil, x.Arg, false
		}
	case api.OpRand:
		s.Seed = wantRand(s.Seed)
		return []int32{int32(s.Seed % 65536)}, -1, false
	case api.OpWin:
		s.Over, s.Winner = true, x.Arg
		return nil, -1, true
	case api.OpHalt:
		return nil, -1, true
	default:
		return []int32{wantJoin(x.Op, top[0], top[1])}, -1, false
	}
	return nil, -1, false
}

// wantJoin is what is laid for two numbers.
func wantJoin(op int, b, a int32) int32 {
	switch op {
	case api.OpAdd:
		return wantHeld(new(big.Int).Add(wide(b), wide(a)))
	case api.OpSub:
		return wantHeld(new(big.Int).Sub(wide(b), wide(a)))
	case api.OpMul:
		// big's Div by a number above 0 goes towards the lesser one.
		n := new(big.Int).Mul(wide(b), wide(a))
		return wantHeld(n.Div(n, wide(65536)))
	case api.OpDiv:
		n := new(big.Int).Mul(wide(b), wide(65536))
		if a == 0 {
			return wantHeld(n.Lsh(n, 32)) // above all that is held, or below
		}
		return wantHeld(n.Quo(n, wide(a)))
	case api.OpMin:
		if a < b {
			return a
		}
		return b
	case api.OpMax:
		if a > b {
			return a
		}
		return b
	case api.OpLess:
		return wantTruth(b < a)
	}
	return wantTruth(b == a)
}

func wide(n int32) *big.Int { return big.NewInt(int64(n)) }

func wantHeld(n *big.Int) int32 {
	switch {
	case n.Cmp(wide(greatest)) > 0:
		return greatest
	case n.Cmp(wide(least)) < 0:
		return least
	}
	return int32(n.Int64())
}

func wantTruth(holds bool) int32 {
	if holds {
		return 65536
	}
	return 0
}

// wantRand is by whole numbers, cut to 32 digits.
func wantRand(seed uint32) uint32 {
	x := uint64(seed)
	x = (x ^ x*8192) % (1 << 32)
	x = x ^ x/131072
	return uint32((x ^ x*32) % (1 << 32))
}
