package link_test

import (
	"math"
	"slices"
	"strings"
	"testing"

	"gauntlet/link"
)

// pair is an end and the chapter's words of it.
type pair struct {
	l *link.Link
	p plain
}

func newPair(id int) *pair {
	return &pair{link.New(id), plain{id: id}}
}

func (x *pair) do(t *testing.T, l ...call) []string {
	t.Helper()
	var out []string
	for _, c := range l {
		out = append(out, x.p.both(t, x.l, c)...)
	}
	return out
}

// behind tells whether an end goes on as the words do: what waits, what is under way, and the Ticks.
func (x *pair) behind(t *testing.T) {
	t.Helper()
	for range 6 {
		x.do(t, call{name: "tick"})
	}
	x.do(t, call{"send", "last"}, call{"hear", withRow(x.p.id, x.p.came+1, len(x.p.rows), "last")})
}

// starts are rows of calls that lead to some edge.
func starts() [][]call {
	rows := func(many int) []call {
		return slices.Repeat([]call{{"send", "row"}}, many)
	}
	ticks := slices.Repeat([]call{{name: "tick"}}, 4)
	return [][]call{
		nil,
		rows(1),
		slices.Concat(rows(2), ticks),
		slices.Concat(rows(15), ticks[:2]),
		slices.Concat(rows(16), ticks),
		rows(17),
		slices.Concat(rows(33), ticks[:3]),
		{{"hear", withRow(2, 1, 0, "theirs")}, {"send", "row"}, {name: "tick"}},
		slices.Concat(rows(18), ticks, []call{{"hear", withRow(2, 1, 1, "theirs")}, {"hear", withRow(2, 2, 0, "")}}, ticks[:2]),
		slices.Concat(rows(5), ticks, []call{{"hear", ackOnly(2, 5)}}),
	}
}

// someCalls is one of each kind, at the edges of the first few rows.
func someCalls() []call {
	return []call{
		{"send", "a"},
		{name: "tick"},
		{"hear", "no packet"},
		{"hear", ackOnly(2, 1)},
		{"hear", ackOnly(2, 3)},
		{"hear", ackOnly(2, 1<<40)},
		{"hear", withRow(2, 1, 0, "one")},
		{"hear", withRow(2, 2, 2, "two")},
		{"hear", withRow(2, 3, 1, "three")},
	}
}

// Each row of four calls behind each start.
func TestEachFourCalls(t *testing.T) {
	some := someCalls()
	through := make([]call, 4)
	var next func(start []call, done int)
	next = func(start []call, done int) {
		if done < len(through) {
			for _, c := range some {
				through[done] = c
				next(start, done+1)
			}
			return
		}
		x := newPair(2)
		x.do(t, start...)
		x.do(t, through...)
		x.behind(t)
	}
	for i, start := range starts() {
		if i%3 == 0 || !testing.Short() {
			next(start, 0)
		}
	}
}

// near is a number near another one, or one far away.
func (d *drawn) near(n int) int {
	if d.below(30) == 0 {
		far := []int{0, 1, -1, math.MaxInt, math.MinInt, 1 << 32, 1<<32 + n, -n, n + 256, n + 65536}
		return far[d.below(len(far))]
	}
	return n + d.below(5) - 2
}

// packet is one that fits more or less.
func (d *drawn) packet(p *plain) string {
	id := p.id
	if d.below(20) == 0 {
		id = d.near(id)
	}
	ack := d.near(len(p.of(ownedTo)) - 2)
	if d.below(3) == 0 {
		ack = d.near(len(p.of(ownedTo)) + d.below(4))
	}
	if d.below(3) == 0 {
		return ackOnly(id, ack)
	}
	number := p.came + 1
	if d.below(3) == 0 {
		number = d.near(number)
	}
	return withRow(id, number, ack, d.bytes(5))
}

// spoilt is bytes with a byte turned, gone, or put in.
func (d *drawn) spoilt(b string) string {
	at := d.below(len(b))
	switch d.below(3) {
	case 0:
		return b[:at] + string([]byte{b[at] ^ byte(1+d.below(255))}) + b[at+1:]
	case 1:
		return b[:at] + b[at+1:]
	}
	return b[:at] + string([]byte{byte(d.below(256))}) + b[at:]
}

func (d *drawn) call(p *plain) call {
	switch x := d.below(24); {
	case x < 9:
		return call{"send", d.bytes(6)}
	case x < 14:
		return call{name: "tick"}
	case x < 22:
		return call{"hear", d.packet(p)}
	case x < 23:
		return call{"hear", d.spoilt(d.packet(p))}
	}
	held := d.packet(p)
	return call{"hear", record(d.spoilt(held[8 : len(held)-4]))} // a record that is whole, and may hold none
}

func TestDrawnCalls(t *testing.T) {
	d := drawn(161)
	came, left := 0, 0
	for range 300 {
		x := newPair([]int{0, 1, -3, 1 << 40, math.MaxInt, math.MinInt}[d.below(6)])
		for range d.below(300) {
			x.do(t, d.call(&x.p))
		}
		x.behind(t)
		came, left = came+x.p.came, left+x.p.left()
	}
	if came < 5000 || left < 1000 {
		t.Errorf("only %d rows came, and %d were left", came, left)
	}
}

// Around a thousand rows that have not been owned to.
func TestDrawnCallsOfFullEnds(t *testing.T) {
	d := drawn(162)
	x := newPair(9)
	for range 998 {
		x.do(t, call{"send", "row"})
	}
	full := 0
	for range 1500 {
		x.do(t, d.call(&x.p))
		if x.p.left() == 1000 {
			full++
			if _, e := x.p.send(""); e == 0 {
				t.Fatal("the test's own words take one more")
			}
		}
	}
	if full < 50 {
		t.Errorf("full behind %d calls only", full)
	}
	x.behind(t)
}

// Bytes of any kind: nothing comes, and the end goes on.
func TestDrawnBytes(t *testing.T) {
	d := drawn(163)
	x := newPair(0) // the id that noughts have
	x.do(t, call{"send", "row"})
	for range 20000 {
		b := d.bytes(40)
		if d.below(2) == 0 {
			b = record(b)
		}
		if d.below(8) == 0 {
			b = record(strings.Repeat("\x00", d.below(6)))
		}
		x.do(t, call{"hear", b})
	}
	x.behind(t)
}

// An end that goes on for long is as a new one with the same rows.
func TestLongUse(t *testing.T) {
	a, b := link.New(1), link.New(1)
	for i := 1; i <= 50000; i++ {
		out, _ := a.Send([]byte(name(i)))
		if len(out) != 1 || string(out[0]) != withRow(1, i, 0, name(i)) {
			t.Fatalf("Send %d: got %x", i, out)
		}
		rows, back := b.Hear(out[0])
		if len(rows) != 1 || string(rows[0]) != name(i) || len(back) != 1 {
			t.Fatalf("Hear %d: got %q, %x", i, rows, back)
		}
		a.Hear(back[0])
	}
	counts(t, a, 0, 50000, 0)
	counts(t, b, 0, 50000, 0)
}

// Ends know nothing of each other, be their ids alike or not.
func TestLinksAreApart(t *testing.T) {
	d := drawn(164)
	all := []*pair{newPair(1), newPair(1), newPair(2), newPair(0), newPair(1)}
	for range 3000 {
		x := all[d.below(len(all))]
		x.do(t, d.call(&x.p))
		for _, y := range all {
			counts(t, y.l, y.p.left(), y.p.sent, y.p.vain)
		}
	}
	for _, x := range all {
		x.behind(t)
	}
}

// The same calls are answered the same, each time.
func TestTwins(t *testing.T) {
	d := drawn(165)
	one, other := newPair(5), newPair(5)
	for range 2000 {
		c := d.call(&one.p)
		if a, b := one.do(t, c), other.do(t, c); !slices.Equal(a, b) {
			t.Fatalf("%v: %v and %v", c, list(a), list(b))
		}
	}
}
