package duel_test

import "gauntlet/api"

// drawn is a row of numbers that look drawn by chance, the same each time.
type drawn uint64

func (d *drawn) below(n int) int {
	*d = *d*6364136223846793005 + 1442695040888963407
	return int(uint64(*d)>>33) % n
}

// number has as many great numbers as small ones, of both signs.
func (d *drawn) number() int32 {
	return int32(d.below(1<<31)<<1|d.below(2)) >> d.below(32)
}

// pair has mostly small inputs, so that games can meet the same again.
func (d *drawn) pair() api.Pair {
	if d.below(4) == 0 {
		return api.Pair{uint16(d.below(65536)), uint16(d.below(65536))}
	}
	return api.Pair{uint16(d.below(4)), uint16(d.below(4))}
}

// piece is instructions that leave the stack as it was, but now and then one that finds too little on it.
func (d *drawn) piece(at int) []api.Ins {
	cell := func(op int) api.Ins { return api.Ins{Op: op, Arg: d.below(16)} }
	in := api.Ins{Op: api.OpIn, Arg: d.below(2)}
	switch d.below(9) {
	case 0:
		return []api.Ins{{Op: api.OpRand}, cell(api.OpStore)}
	case 1:
		return []api.Ins{{Op: api.OpFrame}, cell(api.OpStore)}
	case 2:
		return []api.Ins{{Op: api.OpPush, Arg: int(d.number())}, cell(api.OpStore)}
	case 3: // won, if a player does so much
		return []api.Ins{in, {Op: api.OpPush, Arg: d.below(4)}, {Op: api.OpSub}, {Op: api.OpNot}, {Op: api.OpZero, Arg: at + 6}, {Op: api.OpWin, Arg: d.below(3)}}
	case 4: // fails, if a player does nothing
		return []api.Ins{in, {Op: api.OpNot}, {Op: api.OpZero, Arg: at + 4}, {Op: api.OpDrop}}
	case 5: // goes on for ever, if a player does nothing
		return []api.Ins{in, {Op: api.OpZero, Arg: at}}
	}
	return []api.Ins{cell(api.OpLoad), in, {Op: api.OpAdd + d.below(8)}, {Op: api.OpStore, Arg: d.below(3)}}
}

// game is one that Check takes.
func (d *drawn) game() api.Game {
	var l []api.Ins
	for range d.below(6) {
		l = append(l, d.piece(len(l))...)
	}
	g := api.Game{Code: l, Cap: 1 + d.below(12), Fuel: 1 + d.below(200)}
	if d.below(6) == 0 {
		g.Cap, g.Fuel = 600-d.below(3), 2000-d.below(3)
	}
	return g
}
