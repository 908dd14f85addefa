package code

import (
	"strconv"
	"strings"

	"gauntlet/api"
)

// maxNumber is how many bytes the number of a line may have: as many as the least number of push needs.
const maxNumber = 11

// Print is a program as text.
func Print(l []api.Ins) (string, api.Errno) {
	if _, e := Check(l); e != api.OK {
		return "", e
	}
	var b strings.Builder
	t := ops()
	for _, x := range l {
		b.WriteString(t.line(x))
		b.WriteByte('\n')
	}
	return b.String(), api.OK
}

// Parse is the way back; where it errs.
func Parse(s string) ([]api.Ins, int, api.Errno) {
	var l []api.Ins
	t := ops()
	for rest := s; rest != ""; {
		if len(l) == api.MaxCode {
			return nil, len(l), api.ErrLong
		}
		line, behind, _ := strings.Cut(rest, "\n")
		x, ok := t.read(line)
		if !ok {
			return nil, len(l), api.ErrSyntax
		}
		l = append(l, x)
		rest = behind
	}
	if at, e := Check(l); e != api.OK {
		return nil, at, e
	}
	return l, 0, api.OK
}

// line is an instruction as text, without the 0a.
func (t *table) line(x api.Ins) string {
	row := t[x.Op]
	if !row.arg {
		return row.name
	}
	return row.name + " " + strconv.Itoa(x.Arg)
}

// read is the instruction that a line tells, whatever its argument is.
func (t *table) read(line string) (api.Ins, bool) {
	name, number, _ := strings.Cut(line, " ")
	x := api.Ins{Op: t.find(name)}
	if x.Op == 0 || len(number) > maxNumber {
		return api.Ins{}, false
	}
	if t[x.Op].arg {
		n, err := strconv.Atoi(number)
		if err != nil {
			return api.Ins{}, false
		}
		x.Arg = n
	}
	// What is read, but written otherwise, has another line.
	return x, t.line(x) == line
}
