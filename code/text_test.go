package code_test

import (
	"math"
	"regexp"
	"slices"
	"strconv"
	"strings"
	"testing"

	"gauntlet/api"
	"gauntlet/code"
)

// P9.3

// wantPrint is of what Check takes.
func wantPrint(l []api.Ins) string {
	text := ""
	for _, x := range l {
		f := formOf(x.Op)
		text += f.name
		if f.arg {
			text += " " + strconv.Itoa(x.Arg)
		}
		text += "\n"
	}
	return text
}

func TestPrintByHand(t *testing.T) {
	for _, x := range []struct {
		l    []api.Ins
		want string
	}{
		{nil, ""},
		{[]api.Ins{{Op: api.OpPush, Arg: 5}, {Op: api.OpStore}, {Op: api.OpHalt}}, "push 5\nstore 0\nhalt\n"},
		{[]api.Ins{{Op: api.OpPush, Arg: least}, {Op: api.OpPush, Arg: greatest}}, "push -2147483648\npush 2147483647\n"},
		{[]api.Ins{{Op: api.OpPush}, {Op: api.OpPush, Arg: -1}}, "push 0\npush -1\n"},
		{[]api.Ins{{Op: api.OpLoad, Arg: 15}, {Op: api.OpIn, Arg: 1}, {Op: api.OpAdd}}, "load 15\nin 1\nadd\n"},
		{[]api.Ins{{Op: api.OpFrame}, {Op: api.OpZero, Arg: 2}, {Op: api.OpWin, Arg: 2}}, "frame\nzero 2\nwin 2\n"},
		{[]api.Ins{{Op: api.OpJump, Arg: 1}}, "jump 1\n"},
	} {
		if s, e := code.Print(x.l); s != x.want || e != api.OK {
			t.Errorf("Print(%v): got %q, %v, want %q", x.l, s, e, x.want)
		}
		parses(t, x.want, x.l, 0, api.OK)
	}
}

func TestPrintOfEachOp(t *testing.T) {
	for _, f := range table {
		for _, arg := range []int{f.from, f.last(200)} {
			l := with(halts(200), 3, api.Ins{Op: f.op, Arg: arg})
			if s, e := code.Print(l); s != wantPrint(l) || e != api.OK {
				t.Errorf("%s %d: got %q, %v", f.name, arg, s, e)
			}
		}
	}
}

func TestPrintHasTheErrorsOfCheck(t *testing.T) {
	for _, l := range refused() {
		_, want := wantCheck(l)
		if s, e := code.Print(l); s != "" || e != want {
			t.Errorf("Print(%v): got %q, %v, want %v", l, s, e, want)
		}
	}
}

func parses(t *testing.T, s string, want []api.Ins, at int, e api.Errno) {
	t.Helper()
	if l, n, f := code.Parse(s); !slices.Equal(l, want) || n != at || f != e {
		t.Errorf("Parse(%q): got %v, %d, %v, want %v, %d, %v", s[:min(len(s), 80)], l, n, f, want, at, e)
	}
}

func TestParseWithAndWithoutTheLastEnd(t *testing.T) {
	for _, l := range [][]api.Ins{nil, halts(1), allOps(), halts(256)} {
		text := wantPrint(l)
		parses(t, text, l, 0, api.OK)
		parses(t, strings.TrimSuffix(text, "\n"), l, 0, api.OK)
	}
}

func TestParseOfWhatIsNoLine(t *testing.T) {
	for _, line := range []string{
		" ", "  ", "\t", "\r", "\x00", "\xff", "é", "5", "-", "x", "pus", "pushh", "push", "push ", "push-1", "push\t1",
		"hal", "h", "halts", "halt ", " halt", "halt 0", "halt 1", "halt\r", "halt\x00", "Halt", "HALT", "haLt",
		"add 0", "add ", "ad", "addd", "frame 0", "rand 1", "dup -", "drop x",
		"push  1", " push 1", "push 1 ", "push 1 2", "push 1\t", "push 1\r", "push x", "push 1x", "push x1", "Push 1", "PUSH 1",
		"push 01", "push 00", "push 007", "push -01", "push -0", "push +1", "push +0", "push -", "push +", "push --1", "push -+1", "push - 1",
		"push 1.0", "push 1e3", "push 0x1", "push 1_0", "push _1", "push ٣", "push 100000000000", "push -10000000000", "push 000000000001",
		"push 99999999999999999999", "push 9223372036854775808", "push " + strings.Repeat("9", 1000), "push " + strings.Repeat("0", 1000),
		"load", "load ", "load x", "load 00", "store", "in", "in +1", "jump", "jump -0", "zero", "zero 0 0", "win", "win 02",
		"halt push 1", "push halt", "push push 1", "loa 1", "stor 0", "i 0", "wi 1", "jum 0", "zer 0", "min 0", "ma",
		strings.Repeat("halt", 1000), strings.Repeat(" ", 1000),
	} {
		parses(t, line, nil, 0, api.ErrSyntax)
		parses(t, line+"\n", nil, 0, api.ErrSyntax)
		parses(t, "halt\n"+line+"\nhalt\n", nil, 1, api.ErrSyntax)
		parses(t, "halt\nadd\n"+line, nil, 2, api.ErrSyntax)
	}
}

func TestParseOfEmptyLines(t *testing.T) {
	for _, x := range []struct {
		s  string
		at int
	}{
		{"\n", 0}, {"\n\n", 0}, {"\nhalt", 0}, {"\nhalt\n", 0}, {"halt\n\n", 1}, {"halt\n\nhalt", 1}, {"halt\nhalt\n\n\n", 2},
	} {
		parses(t, x.s, nil, x.at, api.ErrSyntax)
	}
}

func TestParseOfNumbers(t *testing.T) {
	for _, x := range []struct {
		line string
		want api.Ins
		e    api.Errno
	}{
		{"push 0", api.Ins{Op: api.OpPush}, api.OK},
		{"push 10", api.Ins{Op: api.OpPush, Arg: 10}, api.OK},
		{"push -10", api.Ins{Op: api.OpPush, Arg: -10}, api.OK},
		{"push 2147483647", api.Ins{Op: api.OpPush, Arg: greatest}, api.OK},
		{"push -2147483648", api.Ins{Op: api.OpPush, Arg: least}, api.OK},
		{"push 2147483648", api.Ins{}, api.ErrForm},
		{"push -2147483649", api.Ins{}, api.ErrForm},
		{"push 99999999999", api.Ins{}, api.ErrForm},
		{"push -9999999999", api.Ins{}, api.ErrForm},
		{"push 100000000000", api.Ins{}, api.ErrSyntax},
		{"push -10000000000", api.Ins{}, api.ErrSyntax},
		{"load 99999999999", api.Ins{}, api.ErrForm},
		{"load 16", api.Ins{}, api.ErrForm},
		{"store -1", api.Ins{}, api.ErrForm},
		{"in 2", api.Ins{}, api.ErrForm},
		{"jump 2", api.Ins{}, api.ErrForm},
		{"zero 2", api.Ins{}, api.ErrForm},
		{"win 3", api.Ins{}, api.ErrForm},
		{"win 999999999999", api.Ins{}, api.ErrSyntax},
	} {
		var want []api.Ins
		if x.e == api.OK {
			want = []api.Ins{x.want}
		}
		parses(t, x.line, want, 0, x.e)
	}
}

func TestParseOfTooManyLines(t *testing.T) {
	all := strings.Repeat("halt\n", 256)
	parses(t, all, halts(256), 0, api.OK)
	for _, behind := range []string{"halt", "halt\n", "\n", "x", "push", "jump 999", "push 000000000000\n", "halt\nhalt\n", strings.Repeat("halt\n", 5000)} {
		parses(t, all+behind, nil, 256, api.ErrLong)
	}
	// Line by line: what is no line comes ahead of the line that is too many, what only Check refuses does not.
	parses(t, "x\n"+all, nil, 0, api.ErrSyntax)
	parses(t, strings.Repeat("halt\n", 255)+"x\nhalt\n", nil, 255, api.ErrSyntax)
	parses(t, "load 99\n"+all, nil, 256, api.ErrLong)
}

func TestParseTellsWhichErrorAndWhere(t *testing.T) {
	for _, x := range []struct {
		s  string
		at int
		e  api.Errno
	}{
		{"halt\nx\ny\n", 1, api.ErrSyntax},
		{"load 16\nx\n", 1, api.ErrSyntax},
		{"x\nload 16\n", 0, api.ErrSyntax},
		{"load 16\nhalt\nwin 3\npush 00", 3, api.ErrSyntax},
		{"halt\nload 16\nwin 3\n", 1, api.ErrForm},
		{"halt\nadd\njump 4\n", 2, api.ErrForm},
		{"jump 4\n", 0, api.ErrForm},
	} {
		parses(t, x.s, nil, x.at, x.e)
	}
	parses(t, "halt\nadd\njump 3\n", []api.Ins{{Op: api.OpHalt}, {Op: api.OpAdd}, {Op: api.OpJump, Arg: 3}}, 0, api.OK)
}

var lineForm = regexp.MustCompile(`\A(?:(push|load|store|in|jump|zero|win) (0|-?[1-9][0-9]*)|(add|sub|mul|div|min|max|less|same|not|dup|swap|drop|frame|rand|halt))\z`)

// wantLine is a line as P9.3 has it.
func wantLine(line string) (api.Ins, bool) {
	m := lineForm.FindStringSubmatch(line)
	if m == nil || len(m[2]) > 11 {
		return api.Ins{}, false
	}
	arg, _ := strconv.Atoi(m[2])
	for _, f := range table {
		if f.name == m[1]+m[3] {
			return api.Ins{Op: f.op, Arg: arg}, true
		}
	}
	return api.Ins{}, false
}

// wantParse is P9.3 in its own words.
func wantParse(s string) ([]api.Ins, int, api.Errno) {
	if s == "" {
		return nil, 0, api.OK
	}
	var l []api.Ins
	for i, line := range strings.Split(strings.TrimSuffix(s, "\n"), "\n") {
		if i == 256 {
			return nil, i, api.ErrLong
		}
		x, ok := wantLine(line)
		if !ok {
			return nil, i, api.ErrSyntax
		}
		l = append(l, x)
	}
	if at, e := wantCheck(l); e != api.OK {
		return nil, at, e
	}
	return l, 0, api.OK
}

func sameParse(t *testing.T, s string) {
	t.Helper()
	want, at, e := wantParse(s)
	if l, n, f := code.Parse(s); !slices.Equal(l, want) || n != at || f != e {
		t.Fatalf("Parse(%q): got %v, %d, %v, want %v, %d, %v", s, l, n, f, want, at, e)
	}
}

func TestParseOfTurnedTexts(t *testing.T) {
	some := []byte("\n\n\n   0123456789-+hHaltpusdin\t\r\x00\xff")
	d := drawn(94)
	for range 50000 {
		s := []byte(wantPrint(d.program(d.length())))
		for range 1 + d.below(2) {
			s = d.turned(s, some)
		}
		sameParse(t, string(s))
	}
}

func TestParseOfPieces(t *testing.T) {
	pieces := []string{"\n", "\n", "\n", " ", "halt", "push", "load", "add", "win", "jump", "0", "1", "16", "-", "+", "x", "halt\n", "push 1\n", "jump 2\n", "\xff"}
	d := drawn(95)
	for range 50000 {
		s := ""
		for range d.below(9) {
			s += pieces[d.below(len(pieces))]
		}
		sameParse(t, s)
	}
}

func TestParseOfArgumentsAnyGreat(t *testing.T) {
	d := drawn(96)
	for range 20000 {
		n := int(math.MaxInt>>d.below(60)) - d.below(100)
		if d.below(2) == 0 {
			n = -n
		}
		sameParse(t, table[d.below(22)].name+" "+strconv.Itoa(n))
	}
}
