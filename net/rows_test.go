package net_test

import (
	"slices"
	"testing"

	"gauntlet/api"
	"gauntlet/net"
)

// someCalls is one of each kind, at the edges of short rows.
func someCalls() []call {
	l := []call{{name: "send", sent: note{1, 2, "a"}}, {name: "send", sent: note{2, 3, "b"}}, {name: "drop", pick: 1}}
	for _, name := range []string{"give", "twice", "late"} {
		l = append(l, call{name: name}, call{name: name, pick: 1}, call{name: name, pick: -1})
	}
	return l
}

// P15.1 over all rows of four calls behind two messages, with the row asked for at the end alone.
func TestEachFourCalls(t *testing.T) {
	some := someCalls()
	through := make([]call, 4)
	var next func(done int)
	next = func(done int) {
		if done < len(through) {
			for _, c := range some {
				through[done] = c
				next(done + 1)
			}
			return
		}
		p := plain{[]note{{1, 1, "x"}, {3, 1, "y"}}}
		n := row(t, p.row...)
		for _, c := range through {
			p.both(t, n, c)
		}
		for len(p.row) > 0 {
			p.both(t, n, call{name: "give"})
		}
		size(t, n, 0)
	}
	next(0)
}

func TestDrawnCalls(t *testing.T) {
	d := drawn(151)
	counts := map[string]int{}
	for range 300 {
		var p plain
		n := net.New()
		for range d.below(120) {
			c := d.call(len(p.row))
			p.both(t, n, c)
			counts[c.name]++
		}
		left(t, n, p.row...)
	}
	for _, name := range []string{"send", "give", "twice", "late", "drop"} {
		if counts[name] < 300 {
			t.Errorf("%s came %d times only", name, counts[name])
		}
	}
}

// Around MaxFlight: rows that are full, lack one, and are full again.
func TestDrawnCallsOfFullRows(t *testing.T) {
	d := drawn(152)
	p := plain{numbered(api.MaxFlight - 2)}
	n := row(t, p.row...)
	full := 0
	for range 2000 {
		c := d.call(len(p.row))
		if c.name == "drop" {
			c.pick += 600 // one at most
		}
		p.both(t, n, c)
		if len(p.row) == api.MaxFlight {
			full++
		}
	}
	if full < 500 {
		t.Errorf("full behind %d calls only", full)
	}
	left(t, n, p.row...)
}

// A Net that goes on for long is as a new one with the same messages.
func TestLongUse(t *testing.T) {
	d := drawn(153)
	p := plain{notes("abcdefgh")}
	n := row(t, p.row...)
	for range 30000 {
		p.both(t, n, call{name: "send", sent: d.note()})
		p.both(t, n, call{name: "late", pick: d.below(30)})
		p.both(t, n, call{name: "give", pick: d.below(30)})
	}
	left(t, n, p.row...)
}

// Nets know nothing of each other.
func TestNetsAreApart(t *testing.T) {
	d := drawn(154)
	var nets [5]*net.Net
	var plains [5]plain
	for i := range nets {
		nets[i] = net.New()
	}
	for range 2000 {
		i := d.below(len(nets))
		plains[i].both(t, nets[i], d.call(len(plains[i].row)))
		for i := range nets {
			size(t, nets[i], len(plains[i].row))
		}
	}
	for i := range nets {
		left(t, nets[i], plains[i].row...)
	}
}

// The same calls are answered the same, each time.
func TestTwins(t *testing.T) {
	d := drawn(155)
	one, other := net.New(), net.New()
	var p, q plain
	for range 1000 {
		c := d.call(len(p.row))
		p.both(t, one, c)
		q.both(t, other, c)
	}
	if !slices.Equal(p.row, q.row) {
		t.Fatal("the test's own rows are not the same")
	}
	left(t, one, p.row...)
	left(t, other, q.row...)
}
