package code_test

import (
	"bytes"
	"math"
	"slices"
	"testing"

	"gauntlet/api"
	"gauntlet/code"
)

const (
	least    = math.MinInt32
	greatest = math.MaxInt32
	atEnd    = -7 // as the greatest argument: how many instructions there are
)

// form is what chapter 9 says of an op.
type form struct {
	op       int
	name     string
	arg      bool
	from, to int
}

var table = []form{
	{1, "push", true, least, greatest},
	{2, "load", true, 0, 15},
	{3, "store", true, 0, 15},
	{4, "add", false, 0, 0},
	{5, "sub", false, 0, 0},
	{6, "mul", false, 0, 0},
	{7, "div", false, 0, 0},
	{8, "min", false, 0, 0},
	{9, "max", false, 0, 0},
	{10, "less", false, 0, 0},
	{11, "same", false, 0, 0},
	{12, "not", false, 0, 0},
	{13, "dup", false, 0, 0},
	{14, "swap", false, 0, 0},
	{15, "drop", false, 0, 0},
	{16, "in", true, 0, 1},
	{17, "frame", false, 0, 0},
	{18, "jump", true, 0, atEnd},
	{19, "zero", true, 0, atEnd},
	{20, "win", true, 0, 2},
	{21, "rand", false, 0, 0},
	{22, "halt", false, 0, 0},
}

// last is the greatest argument in a program of n instructions.
func (f form) last(n int) int {
	if f.to == atEnd {
		return n
	}
	return f.to
}

// formOf is nil, if there is no such op.
func formOf(op int) *form {
	if op < 1 || op > len(table) {
		return nil
	}
	return &table[op-1]
}

// wantCheck is P9.1 in its own words.
func wantCheck(l []api.Ins) (int, api.Errno) {
	if len(l) > 256 {
		return 0, api.ErrLong
	}
	for i, x := range l {
		f := formOf(x.Op)
		if f == nil || x.Arg < f.from || x.Arg > f.last(len(l)) {
			return i, api.ErrForm
		}
	}
	return 0, api.OK
}

// halts is a program of n instructions that does nothing.
func halts(n int) []api.Ins {
	return slices.Repeat([]api.Ins{{Op: api.OpHalt}}, n)
}

// with is a program with one instruction replaced.
func with(l []api.Ins, at int, x api.Ins) []api.Ins {
	l = slices.Clone(l)
	l[at] = x
	return l
}

func checks(t *testing.T, l []api.Ins, at int, want api.Errno) {
	t.Helper()
	if got, e := code.Check(l); got != at || e != want {
		t.Errorf("Check of %d instructions, %v: got %d, %v, want %d, %v", len(l), l[:min(len(l), 3)], got, e, at, want)
	}
}

// drawn is a row of numbers that look drawn by chance, the same each time.
type drawn uint64

func (d *drawn) below(n int) int {
	*d = *d*6364136223846793005 + 1442695040888963407
	return int(uint64(*d)>>33) % n
}

// number has as many great numbers as small ones, of both signs.
func (d *drawn) number() int {
	return int(int32(d.below(1<<31)<<1|d.below(2)) >> d.below(32))
}

// program is one of n instructions that Check takes.
func (d *drawn) program(n int) []api.Ins {
	l := make([]api.Ins, n)
	for i := range l {
		f := table[d.below(22)]
		l[i].Op = f.op
		if f.op == api.OpPush {
			l[i].Arg = d.number()
		} else {
			l[i].Arg = d.below(f.last(n) + 1)
		}
	}
	return l
}

// length is mostly small, and now and then about as great as may be.
func (d *drawn) length() int {
	if d.below(50) == 0 {
		return 256 - d.below(3)
	}
	return d.below(20)
}

// P9.1

func TestCheckArguments(t *testing.T) {
	for _, f := range table {
		for _, n := range []int{1, 2, 5, 255, 256} {
			for _, at := range []int{0, n / 2, n - 1} {
				for _, arg := range []int{f.from, f.last(n)} {
					checks(t, with(halts(n), at, api.Ins{Op: f.op, Arg: arg}), 0, api.OK)
				}
				for _, arg := range []int{f.from - 1, f.last(n) + 1, math.MinInt, math.MaxInt, 1 << 32, -1 << 32} {
					checks(t, with(halts(n), at, api.Ins{Op: f.op, Arg: arg}), at, api.ErrForm)
				}
			}
		}
	}
}

func TestCheckMiddleArguments(t *testing.T) {
	for _, x := range []api.Ins{{Op: api.OpPush}, {Op: api.OpPush, Arg: -1}, {Op: api.OpPush, Arg: 65536}, {Op: api.OpLoad, Arg: 7}, {Op: api.OpStore, Arg: 8}, {Op: api.OpWin, Arg: 1}, {Op: api.OpJump, Arg: 1}, {Op: api.OpZero, Arg: 2}} {
		checks(t, with(halts(3), 1, x), 0, api.OK)
	}
}

func TestCheckNoSuchOp(t *testing.T) {
	for _, op := range []int{0, -1, -22, 23, 24, 255, 256, 256 + 22, -256 + 22, 1<<32 + 22, math.MinInt, math.MaxInt} {
		for _, at := range []int{0, 1, 4} {
			checks(t, with(halts(5), at, api.Ins{Op: op}), at, api.ErrForm)
		}
	}
}

func TestCheckLengths(t *testing.T) {
	checks(t, nil, 0, api.OK)
	checks(t, []api.Ins{}, 0, api.OK)
	checks(t, halts(256), 0, api.OK)
	for _, n := range []int{257, 258, 512, 100000} {
		checks(t, halts(n), 0, api.ErrLong)
		checks(t, make([]api.Ins, n), 0, api.ErrLong)
		checks(t, with(halts(n), 5, api.Ins{Op: 99}), 0, api.ErrLong)
	}
}

func TestCheckTellsTheFirst(t *testing.T) {
	wrong := []api.Ins{{}, {Op: 23}, {Op: api.OpAdd, Arg: 1}, {Op: api.OpJump, Arg: 7}}
	for _, a := range wrong {
		for _, b := range wrong {
			checks(t, with(with(halts(6), 2, a), 4, b), 2, api.ErrForm)
			checks(t, with(with(halts(6), 0, a), 5, b), 0, api.ErrForm)
		}
	}
}

func TestCheckOfDrawnPrograms(t *testing.T) {
	d := drawn(91)
	for range 20000 {
		l := d.program(d.length())
		if len(l) > 0 && d.below(2) == 0 {
			l[d.below(len(l))] = api.Ins{Op: d.below(26) - 1, Arg: d.below(len(l)+20) - 2}
		}
		at, want := wantCheck(l)
		checks(t, l, at, want)
	}
}

// P9.2

// num is a number as P1.1 has it.
func num(v int) []byte {
	u := uint64(v) << 1
	if v < 0 {
		u = uint64(-(v+1))<<1 | 1
	}
	var b []byte
	for ; u > 0x7f; u >>= 7 {
		b = append(b, byte(u)|0x80)
	}
	return append(b, byte(u))
}

// wantEncode is of what Check takes.
func wantEncode(l []api.Ins) []byte {
	b := num(len(l))
	for _, x := range l {
		b = append(b, byte(x.Op))
		if formOf(x.Op).arg {
			b = append(b, num(x.Arg)...)
		}
	}
	return b
}

func TestEncodeByHand(t *testing.T) {
	for _, x := range []struct {
		l    []api.Ins
		want []byte
	}{
		{nil, []byte{0}},
		{[]api.Ins{{Op: api.OpPush, Arg: 5}, {Op: api.OpStore}, {Op: api.OpHalt}}, []byte{6, 1, 10, 3, 0, 22}},
		{[]api.Ins{{Op: api.OpPush, Arg: -1}}, []byte{2, 1, 1}},
		{[]api.Ins{{Op: api.OpPush, Arg: -64}}, []byte{2, 1, 127}},
		{[]api.Ins{{Op: api.OpPush, Arg: 64}}, []byte{2, 1, 0x80, 1}},
		{[]api.Ins{{Op: api.OpPush, Arg: 65536}}, []byte{2, 1, 0x80, 0x80, 8}},
		{[]api.Ins{{Op: api.OpPush, Arg: least}}, []byte{2, 1, 0xff, 0xff, 0xff, 0xff, 15}},
		{[]api.Ins{{Op: api.OpPush, Arg: greatest}}, []byte{2, 1, 0xfe, 0xff, 0xff, 0xff, 15}},
		{[]api.Ins{{Op: api.OpLoad, Arg: 15}, {Op: api.OpRand}}, []byte{4, 2, 30, 21}},
		{[]api.Ins{{Op: api.OpIn, Arg: 1}, {Op: api.OpZero, Arg: 2}}, []byte{4, 16, 2, 19, 4}},
		{[]api.Ins{{Op: api.OpWin, Arg: 2}, {Op: api.OpJump}}, []byte{4, 20, 4, 18, 0}},
		{[]api.Ins{{Op: api.OpAdd}, {Op: api.OpFrame}}, []byte{4, 4, 17}},
		{halts(256), append([]byte{0x80, 4}, bytes.Repeat([]byte{22}, 256)...)},
	} {
		if b, e := code.Encode(x.l); !bytes.Equal(b, x.want) || e != api.OK {
			t.Errorf("Encode(%v): got %x, %v, want %x", x.l, b, e, x.want)
		}
		if l, e := code.Decode(x.want); !slices.Equal(l, x.l) || e != api.OK {
			t.Errorf("Decode(%x): got %v, %v, want %v", x.want, l, e, x.l)
		}
	}
}

func TestEncodeOfEachOp(t *testing.T) {
	for _, f := range table {
		for _, arg := range []int{f.from, f.last(200)} {
			l := with(halts(200), 3, api.Ins{Op: f.op, Arg: arg})
			if b, e := code.Encode(l); !bytes.Equal(b, wantEncode(l)) || e != api.OK {
				t.Errorf("%s %d: got %x, %v", f.name, arg, b, e)
			}
		}
	}
}

// refused are programs that Check refuses.
func refused() [][]api.Ins {
	return [][]api.Ins{
		{{}},
		{{Op: 23}},
		{{Op: 256 + 22}},
		{{Op: api.OpHalt}, {Op: api.OpAdd, Arg: 1}},
		{{Op: api.OpJump, Arg: 2}},
		{{Op: api.OpZero, Arg: -1}},
		{{Op: api.OpPush, Arg: greatest + 1}},
		{{Op: api.OpIn, Arg: 2}},
		{{Op: api.OpStore, Arg: 16}},
		{{Op: api.OpWin, Arg: 3}},
		halts(257),
		make([]api.Ins, 300),
	}
}

func TestEncodeHasTheErrorsOfCheck(t *testing.T) {
	for _, l := range refused() {
		_, want := wantCheck(l)
		if b, e := code.Encode(l); len(b) != 0 || e != want {
			t.Errorf("Encode(%v): got %x, %v, want %v", l, b, e, want)
		}
	}
}

func decodes(t *testing.T, b []byte, want api.Errno) {
	t.Helper()
	if l, e := code.Decode(b); e != want || e != api.OK && len(l) != 0 {
		t.Errorf("Decode(%x): got %v, %v, want %v", b, l, e, want)
	}
}

// allOps is a program of each op, some with arguments of several bytes.
func allOps() []api.Ins {
	var l []api.Ins
	for _, f := range table {
		l = append(l, api.Ins{Op: f.op, Arg: f.last(22)})
	}
	l[0].Arg = least
	return l
}

func TestDecodeCutShort(t *testing.T) {
	for _, l := range [][]api.Ins{nil, allOps(), halts(256)} {
		b := wantEncode(l)
		for n := range b {
			decodes(t, b[:n], api.ErrShort)
		}
		decodes(t, b, api.OK)
		for _, behind := range []byte{0, 1, 22, 0xff} {
			decodes(t, append(slices.Clone(b), behind), api.ErrForm)
		}
	}
}

func TestDecodeWrongBytes(t *testing.T) {
	for _, x := range []struct {
		name string
		b    []byte
		want api.Errno
	}{
		{"no byte", nil, api.ErrShort},
		{"a count below 0", []byte{1}, api.ErrForm},
		{"a count below 0, and an instruction", []byte{1, 22}, api.ErrForm},
		{"the least count", num(math.MinInt), api.ErrForm},
		{"the greatest count", num(math.MaxInt), api.ErrForm},
		{"a count above MaxCode, short", num(257), api.ErrForm},
		{"a count above MaxCode, whole", append(num(257), bytes.Repeat([]byte{22}, 257)...), api.ErrForm},
		{"a count of MaxCode, short", num(256), api.ErrShort},
		{"a count with a byte too many", []byte{0x82, 0, 22}, api.ErrForm},
		{"a count that goes on for ever", bytes.Repeat([]byte{0x80}, 10), api.ErrForm},
		{"a count that ends early", bytes.Repeat([]byte{0x80}, 9), api.ErrShort},
		{"Op 0 at the end", []byte{2, 0}, api.ErrForm},
		{"Op 0, and something behind", []byte{2, 0, 0}, api.ErrForm},
		{"Op 0 ahead of what is short", []byte{4, 0}, api.ErrForm},
		{"Op 23 ahead of what is short", []byte{6, 22, 23}, api.ErrForm},
		{"Op 255 ahead of what is short", []byte{6, 22, 255}, api.ErrForm},
		{"short ahead of any Op", []byte{2}, api.ErrShort},
		{"short at the second Op", []byte{4, 22}, api.ErrShort},
		{"short within an argument", []byte{2, 1, 0x80}, api.ErrShort},
		{"short ahead of an argument", []byte{4, 22, 18}, api.ErrShort},
		{"an argument with a byte too many", []byte{2, 1, 0x80, 0}, api.ErrForm},
		{"an argument with a byte too many, ahead of what is short", []byte{4, 1, 0x80, 0}, api.ErrForm},
		{"an argument of more than ten bytes, ahead of what is short", append([]byte{4, 1}, bytes.Repeat([]byte{0xff}, 10)...), api.ErrForm},
		{"an argument that may not be, ahead of what is short", []byte{4, 2, 40}, api.ErrShort},
		{"an argument that may not be, and something behind", []byte{2, 2, 40, 0}, api.ErrForm},
		{"a cell that is none", []byte{2, 2, 32}, api.ErrForm},
		{"a cell below 0", []byte{2, 3, 1}, api.ErrForm},
		{"a player who is none", []byte{2, 16, 4}, api.ErrForm},
		{"a jump beyond the end", []byte{2, 18, 4}, api.ErrForm},
		{"a jump to the end", []byte{2, 18, 2}, api.OK},
		{"a zero beyond the end", []byte{4, 19, 6, 22}, api.ErrForm},
		{"a winner who is none", []byte{2, 20, 6}, api.ErrForm},
		{"push, one too much", append([]byte{2, 1}, num(greatest+1)...), api.ErrForm},
		{"push, one too little", append([]byte{2, 1}, num(least-1)...), api.ErrForm},
		{"push, the least number of all", append([]byte{2, 1}, num(math.MinInt)...), api.ErrForm},
		{"no instruction", []byte{0}, api.OK},
		{"no instruction, and something behind", []byte{0, 22}, api.ErrForm},
	} {
		if l, e := code.Decode(x.b); e != x.want || len(l) != 0 && e != api.OK {
			t.Errorf("%s, %x: got %v, %v, want %v", x.name, x.b, l, e, x.want)
		}
	}
}

// takeNum takes a number as P1.2 says it.
func takeNum(b []byte) (v int, rest []byte, e api.Errno) {
	var u uint64
	for i := range 10 {
		if i == len(b) {
			return 0, nil, api.ErrShort
		}
		u |= uint64(b[i]&0x7f) << (7 * i)
		if b[i] > 0x7f {
			continue
		}
		if i == 9 && b[i] > 1 || i > 0 && b[i] == 0 {
			return 0, nil, api.ErrForm
		}
		v = int(u >> 1)
		if u&1 == 1 {
			v = -v - 1
		}
		return v, b[i+1:], api.OK
	}
	return 0, nil, api.ErrForm
}

// wantDecode is P9.2 in its own words.
func wantDecode(b []byte) ([]api.Ins, api.Errno) {
	n, b, e := takeNum(b)
	if e != api.OK {
		return nil, e
	}
	if n < 0 || n > 256 {
		return nil, api.ErrForm
	}
	var l []api.Ins
	for range n {
		if len(b) == 0 {
			return nil, api.ErrShort
		}
		x := api.Ins{Op: int(b[0])}
		b = b[1:]
		f := formOf(x.Op)
		if f == nil {
			return nil, api.ErrForm
		}
		if f.arg {
			if x.Arg, b, e = takeNum(b); e != api.OK {
				return nil, e
			}
		}
		l = append(l, x)
	}
	if len(b) > 0 {
		return nil, api.ErrForm
	}
	if _, e := wantCheck(l); e != api.OK {
		return nil, e
	}
	return l, api.OK
}

func sameDecode(t *testing.T, b []byte) {
	t.Helper()
	want, e := wantDecode(b)
	if l, f := code.Decode(b); !slices.Equal(l, want) || f != e {
		t.Fatalf("Decode(%x): got %v, %v, want %v, %v", b, l, f, want, e)
	}
}

func TestDecodeOfAnyBytes(t *testing.T) {
	for a := range 256 {
		sameDecode(t, []byte{byte(a)})
		for b := range 256 {
			sameDecode(t, []byte{byte(a), byte(b)})
			sameDecode(t, []byte{2, byte(a), byte(b)})
			sameDecode(t, []byte{4, byte(a), byte(b), 22})
		}
	}
	d := drawn(92)
	for range 50000 {
		b := make([]byte, d.below(12))
		for i := range b {
			b[i] = byte(d.below(256) >> (d.below(3) * 2))
		}
		sameDecode(t, b)
	}
}

// turned is a row with a byte gone, turned or put in.
func (d *drawn) turned(b []byte, some []byte) []byte {
	at := d.below(len(b) + 1)
	x := some[d.below(len(some))]
	switch d.below(4) {
	case 0:
		return slices.Insert(slices.Clone(b), at, x)
	case 1:
		return slices.Clone(b[:at])
	case 2:
		return slices.Delete(slices.Clone(b), min(at, len(b)), min(at+1, len(b)))
	}
	b = slices.Clone(b)
	if at < len(b) {
		b[at] = x
	}
	return b
}

func TestDecodeOfTurnedPrograms(t *testing.T) {
	some := []byte{0, 1, 2, 3, 4, 15, 16, 18, 19, 20, 22, 23, 30, 32, 0x7f, 0x80, 0x81, 0xff}
	d := drawn(93)
	for range 50000 {
		sameDecode(t, d.turned(wantEncode(d.program(d.length())), some))
	}
}
