package vm

import (
	"gauntlet/api"
	"gauntlet/fixed"
)

const yes = 1 << 16 // what a comparison that holds lays

// machine runs a program once, through one frame.
type machine struct {
	code  []api.Ins
	in    api.Pair
	state api.State // as the program has made it so far
	stack [api.MaxStack]int32
	high  int // how many numbers lie on the stack
	at    int // the next instruction
	err   api.Errno
}

// doers is what does each Op, at its number; none stands at 0.
type doers [api.OpHalt + 1]func(m *machine, arg int)

func doings() doers {
	return doers{
		api.OpPush:  (*machine).push,
		api.OpLoad:  (*machine).load,
		api.OpStore: (*machine).store,
		api.OpAdd:   (*machine).add,
		api.OpSub:   (*machine).sub,
		api.OpMul:   (*machine).mul,
		api.OpDiv:   (*machine).div,
		api.OpMin:   (*machine).min,
		api.OpMax:   (*machine).max,
		api.OpLess:  (*machine).less,
		api.OpSame:  (*machine).same,
		api.OpNot:   (*machine).not,
		api.OpDup:   (*machine).dup,
		api.OpSwap:  (*machine).swap,
		api.OpDrop:  (*machine).drop,
		api.OpIn:    (*machine).input,
		api.OpFrame: (*machine).frame,
		api.OpJump:  (*machine).jump,
		api.OpZero:  (*machine).zero,
		api.OpWin:   (*machine).win,
		api.OpRand:  (*machine).rand,
		api.OpHalt:  (*machine).halt,
	}
}

// run does a program that Check takes, up to its end or to an error.
func (m *machine) run(fuel int) api.Errno {
	do := doings()
	for m.err == api.OK && m.at < len(m.code) {
		if fuel == 0 {
			return api.ErrFuel
		}
		fuel--
		x := m.code[m.at]
		m.at++
		do[x.Op](m, x.Arg)
	}
	return m.err
}

// lay lays a number. What an instruction does behind an error makes no odds: nothing of such a frame is kept.
func (m *machine) lay(v int32) {
	if m.high == len(m.stack) {
		m.err = api.ErrStack
		return
	}
	m.stack[m.high] = v
	m.high++
}

func (m *machine) take() int32 {
	if m.high == 0 {
		m.err = api.ErrStack
		return 0
	}
	m.high--
	return m.stack[m.high]
}

// join lays one number for two; the upmost is the second of them.
func (m *machine) join(of func(b, a int32) int32) {
	a, b := m.take(), m.take()
	m.lay(of(b, a))
}

func (m *machine) push(arg int) { m.lay(int32(arg)) }

func (m *machine) load(arg int) { m.lay(m.state.Cells[arg]) }

func (m *machine) store(arg int) { m.state.Cells[arg] = m.take() }

func (m *machine) add(int) { m.join(fixed.Add) }

func (m *machine) sub(int) { m.join(fixed.Sub) }

func (m *machine) mul(int) { m.join(fixed.Mul) }

func (m *machine) div(int) { m.join(fixed.Div) }

func (m *machine) min(int) { m.join(lesser) }

func (m *machine) max(int) { m.join(greater) }

func (m *machine) less(int) { m.join(isLess) }

func (m *machine) same(int) { m.join(isSame) }

func (m *machine) not(int) { m.lay(isSame(m.take(), 0)) }

func (m *machine) dup(int) {
	a := m.take()
	m.lay(a)
	m.lay(a)
}

func (m *machine) swap(int) {
	a, b := m.take(), m.take()
	m.lay(a)
	m.lay(b)
}

func (m *machine) drop(int) { m.take() }

func (m *machine) input(arg int) { m.lay(int32(m.in[arg])) }

func (m *machine) frame(int) { m.lay(int32(m.state.Frame)) }

func (m *machine) jump(arg int) { m.at = arg }

func (m *machine) zero(arg int) {
	if m.take() == 0 {
		m.jump(arg)
	}
}

func (m *machine) win(arg int) {
	m.state.Over = true
	m.state.Winner = arg
	m.halt(arg)
}

func (m *machine) rand(int) {
	x := m.state.Seed
	x ^= x << 13
	x ^= x >> 17
	x ^= x << 5
	m.state.Seed = x
	m.lay(int32(x & 0xffff))
}

func (m *machine) halt(int) { m.at = len(m.code) }

func lesser(b, a int32) int32 { return min(b, a) }

func greater(b, a int32) int32 { return max(b, a) }

func isLess(b, a int32) int32 { return told(b < a) }

func isSame(b, a int32) int32 { return told(b == a) }

// told is a comparison as a number.
func told(holds bool) int32 {
	if holds {
		return yes
	}
	return 0
}
