package link_test

import (
	"strconv"
	"strings"
	"testing"

	"gauntlet/api"
	"gauntlet/link"
)

// line is two ends, and what is under way to each of them.
type line struct {
	ends  [2]*link.Link
	sent  [2][]string // by each
	came  [2]int      // of what the other one Sent
	under [2][]string
}

func newLine(id int) *line {
	return &line{ends: [2]*link.Link{link.New(id), link.New(id)}}
}

// put lays packets of an end under way to the other one.
func (x *line) put(from int, out [][]byte) {
	x.under[1-from] = append(x.under[1-from], texts(out)...)
}

// send has an end Send a row, if there is room for it.
func (x *line) send(t *testing.T, i int, row string) {
	t.Helper()
	out, e := x.ends[i].Send([]byte(row))
	switch e {
	case api.OK:
		x.sent[i] = append(x.sent[i], row)
	case api.ErrFull:
	default:
		t.Fatalf("Send: %v", e)
	}
	x.put(i, out)
}

// hear has an end hear bytes: what comes must be the next one of what was Sent, byte by byte.
func (x *line) hear(t *testing.T, i int, b string) {
	t.Helper()
	rows, out := x.ends[i].Hear([]byte(b))
	for _, row := range rows {
		if n := x.came[i]; n >= len(x.sent[1-i]) || string(row) != x.sent[1-i][n] {
			t.Fatalf("row %d came as %.40q", n, row)
		}
		x.came[i]++
	}
	x.put(i, out)
}

// take takes a packet out of what is under way to an end.
func (x *line) take(i, place int) string {
	b := x.under[i][place]
	x.under[i] = append(x.under[i][:place:place], x.under[i][place+1:]...)
	return b
}

func (x *line) tick(i int) { x.put(i, x.ends[i].Tick()) }

// done tells whether all has come, and whether both ends know it.
func (x *line) done() bool {
	return x.came[0] == len(x.sent[1]) && x.came[1] == len(x.sent[0]) && x.ends[0].Left()+x.ends[1].Left() == 0
}

// all goes on with Ticks until all has come, with just those packets for which comes says so.
func (x *line) all(t *testing.T, comes func(to int, b string) bool) {
	t.Helper()
	for range 100000 {
		for i := range x.ends {
			x.tick(i)
			for len(x.under[i]) > 0 {
				if b := x.take(i, 0); comes(i, b) {
					x.hear(t, i, b)
				}
			}
		}
		if x.done() {
			return
		}
	}
	t.Fatalf("came: %v of %d and %d", x.came, len(x.sent[1]), len(x.sent[0]))
}

func always(int, string) bool { return true }

// row is one that says where it stands, of any length.
func (d *drawn) row(n int) string {
	switch d.below(20) {
	case 0:
		return ""
	case 1:
		return strings.Repeat(strconv.Itoa(n%10), 4096)
	}
	return strconv.Itoa(n) + d.bytes(12)
}

// step does something to a line: a row, a Tick, or a packet that is lost, doubled, late, spoilt, or heard.
func (x *line) step(t *testing.T, d *drawn) {
	t.Helper()
	i := d.below(2)
	switch c := d.below(20); {
	case c < 4:
		x.send(t, i, d.row(len(x.sent[i])))
	case c < 7:
		x.tick(i)
	case len(x.under[i]) == 0:
	case c < 9:
		x.take(i, d.below(len(x.under[i])))
	case c < 11:
		x.hear(t, i, x.under[i][d.below(len(x.under[i]))]) // and comes again
	case c < 12:
		x.hear(t, i, d.spoilt(x.take(i, 0)))
	case c < 14:
		x.hear(t, i, x.take(i, d.below(len(x.under[i]))))
	default:
		x.hear(t, i, x.take(i, 0))
	}
	x.under[i] = x.under[i][max(0, len(x.under[i])-40):] // and what is too many is lost
}

// P16.4: the first so many, each once

func TestLostDoubledLate(t *testing.T) {
	d := drawn(166)
	came := 0
	for range 60 {
		x := newLine(d.below(1000) - 500)
		for range 1500 {
			x.step(t, &d)
		}
		came += x.came[0] + x.came[1]
		x.all(t, always)
	}
	if came < 3000 {
		t.Errorf("only %d rows came before all were let through", came)
	}
}

// Each call of both ends, held against the words meanwhile.
func TestTwoEndsByTheWords(t *testing.T) {
	d := drawn(167)
	for range 30 {
		ends := [2]*pair{newPair(3), newPair(3)}
		var under [2][]string
		for n := range 600 {
			i := d.below(2)
			c := call{name: "tick"}
			switch k := d.below(6); {
			case k < 2 && n < 300:
				c = call{"send", d.bytes(8)}
			case k < 5 && len(under[i]) > 0:
				at := d.below(min(len(under[i]), 4))
				c = call{"hear", under[i][at]}
				if d.below(4) > 0 {
					under[i] = append(under[i][:at:at], under[i][at+1:]...)
				}
			}
			out := ends[i].do(t, c)
			if d.below(5) > 0 {
				under[1-i] = append(under[1-i], out...)
			}
		}
		for i := range ends {
			if ends[i].p.came > len(ends[1-i].p.rows) {
				t.Fatalf("%d of %d rows came", ends[i].p.came, len(ends[1-i].p.rows))
			}
		}
	}
}

// Each packet that ever went out comes again and again, in whatever order: each row still comes once.
func TestAllComesAgain(t *testing.T) {
	d := drawn(168)
	x := newLine(1)
	var ever [2][]string
	for n := range 4000 {
		i := d.below(2)
		if n%8 == 0 {
			x.send(t, i, d.row(n))
		}
		x.tick(i)
		ever[i] = append(ever[i], x.under[i]...)
		x.under[i] = nil
		if len(ever[i]) > 0 {
			x.hear(t, i, ever[i][d.below(len(ever[i]))])
		}
	}
	x.all(t, always)
}

// What comes goes round: the last packet of each lot comes first.
func TestTurnedRound(t *testing.T) {
	for _, many := range []int{1, 2, 16, 17, 100} {
		x := newLine(1)
		for n := range many {
			x.send(t, 0, name(n))
			x.send(t, 1, name(-n))
		}
		for range 100000 {
			for i := range x.ends {
				lot := x.under[i]
				x.under[i] = nil
				for k := len(lot) - 1; k >= 0; k-- {
					x.hear(t, i, lot[k])
				}
			}
			x.tick(0)
			x.tick(1)
			if x.done() {
				break
			}
		}
		if !x.done() {
			t.Fatalf("of %d rows %v came", many, x.came)
		}
	}
}

// An end hears nothing for long, and what went out meanwhile comes at last.
func TestAfterALongSilence(t *testing.T) {
	x := newLine(1)
	for n := range 1000 {
		x.send(t, 0, name(n))
	}
	x.send(t, 0, "refused")
	for range 503 {
		x.tick(0)
	}
	if many := len(x.under[1]); many != 16*101 {
		t.Fatalf("%d packets went out", many)
	}
	x.all(t, always)
	if x.came != [2]int{0, 1000} {
		t.Fatalf("came: %v", x.came)
	}
}

// P16.4: one of every so many

// Of every so many times that a packet with one number goes out, one comes (0: those without a row).
func TestOneOfEverySoManyOfEachRow(t *testing.T) {
	for _, often := range []int{1, 2, 3, 4, 5, 8, 16, 17} {
		for _, many := range []int{1, 2, 3, 15, 16, 17, 33, 60} {
			for _, place := range []int{0, often / 2, often - 1} {
				x := newLine(1)
				for n := range many {
					x.send(t, 0, name(n))
				}
				for n := range many / 2 {
					x.send(t, 1, name(-n))
				}
				var went [2]map[int]int
				went[0], went[1] = map[int]int{}, map[int]int{}
				x.all(t, func(to int, b string) bool {
					_, number, _, _, _ := parts(b)
					went[to][number]++
					return went[to][number]%often == place
				})
			}
		}
	}
}

// Of every so many packets one comes, at a drawn place.
func TestOneOfEverySoManyPackets(t *testing.T) {
	d := drawn(169)
	for _, often := range []int{1, 2, 3, 4, 5, 8, 16, 17, 40} {
		for _, many := range []int{1, 2, 16, 17, 60} {
			x := newLine(1)
			for n := range many {
				x.send(t, 0, d.row(n))
				x.send(t, 1, d.row(n))
			}
			var went, place [2]int
			x.all(t, func(to int, _ string) bool {
				if went[to]%often == 0 {
					place[to] = d.below(often)
				}
				went[to]++
				return (went[to]-1)%often == place[to]
			})
		}
	}
}

// Rows that are Sent all the while, on a line that loses three of four.
func TestRowsAllTheWhile(t *testing.T) {
	d := drawn(170)
	for range 10 {
		x := newLine(1)
		for n := range 3000 {
			i := d.below(2)
			if n%10 == 0 {
				x.send(t, i, d.row(n))
			}
			x.tick(i)
			lot := x.under[i]
			x.under[i] = nil
			for _, b := range lot {
				if d.below(4) == 0 {
					x.hear(t, i, b)
				}
			}
		}
		x.all(t, func(int, string) bool { return d.below(4) == 0 })
	}
}
