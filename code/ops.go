package code

import (
	"math"

	"gauntlet/api"
)

// op is what there is to know of an Op ahead of doing it.
type op struct {
	name string
	arg  bool                    // whether it has an argument
	may  func(program, int) bool // whether its Arg may be this one
}

// table is the ops, each at its number; none stands at 0.
type table [api.OpHalt + 1]op

func ops() table {
	return table{
		api.OpPush:  {"push", true, program.isNumber},
		api.OpLoad:  {"load", true, program.isCell},
		api.OpStore: {"store", true, program.isCell},
		api.OpAdd:   {"add", false, program.isNought},
		api.OpSub:   {"sub", false, program.isNought},
		api.OpMul:   {"mul", false, program.isNought},
		api.OpDiv:   {"div", false, program.isNought},
		api.OpMin:   {"min", false, program.isNought},
		api.OpMax:   {"max", false, program.isNought},
		api.OpLess:  {"less", false, program.isNought},
		api.OpSame:  {"same", false, program.isNought},
		api.OpNot:   {"not", false, program.isNought},
		api.OpDup:   {"dup", false, program.isNought},
		api.OpSwap:  {"swap", false, program.isNought},
		api.OpDrop:  {"drop", false, program.isNought},
		api.OpIn:    {"in", true, program.isPlayer},
		api.OpFrame: {"frame", false, program.isNought},
		api.OpJump:  {"jump", true, program.isPlace},
		api.OpZero:  {"zero", true, program.isPlace},
		api.OpWin:   {"win", true, program.isWinner},
		api.OpRand:  {"rand", false, program.isNought},
		api.OpHalt:  {"halt", false, program.isNought},
	}
}

func (t *table) has(n int) bool { return n > 0 && n < len(t) }

// find is the Op with this name; 0: there is none.
func (t *table) find(name string) int {
	for n := 1; n < len(t); n++ {
		if t[n].name == name {
			return n
		}
	}
	return 0
}

// program is whose arguments are looked at: how far a jump may go depends on all of it.
type program []api.Ins

func (program) isNumber(arg int) bool { return arg >= math.MinInt32 && arg <= math.MaxInt32 }

func (program) isCell(arg int) bool { return arg >= 0 && arg < api.Cells }

func (program) isPlayer(arg int) bool { return arg == 0 || arg == 1 }

// isPlace takes the place behind the last instruction, too: that is the end.
func (p program) isPlace(arg int) bool { return arg >= 0 && arg <= len(p) }

func (program) isWinner(arg int) bool { return arg >= 0 && arg <= 2 }

func (program) isNought(arg int) bool { return arg == 0 }
