package net_test

import (
	"fmt"
	"math"
	"slices"
	"strconv"
	"testing"

	"gauntlet/api"
	"gauntlet/net"
)

// note is a message that can be held against another one.
type note struct {
	from, to int
	data     string
}

func (x note) msg() api.Msg {
	return api.Msg{From: x.from, To: x.to, Data: []byte(x.data)}
}

func noteOf(m api.Msg) note {
	return note{m.From, m.To, string(m.Data)}
}

func (x note) String() string {
	return fmt.Sprintf("{%d to %d: %.40q}", x.from, x.to, x.data)
}

// plain is the words of P15.1 over a list that is written anew with each call.
type plain struct{ row []note }

// place is that of the picked one, by taking away whole rows.
func (p *plain) place(pick int) int {
	if pick < 0 {
		return 0
	}
	rows := pick / len(p.row)
	return pick - rows*len(p.row)
}

// without is all but the one at a place, in their order.
func (p *plain) without(place int) []note {
	var l []note
	for i, x := range p.row {
		if i != place {
			l = append(l, x)
		}
	}
	return l
}

func (p *plain) send(x note) bool {
	if len(p.row) >= 1024 {
		return false
	}
	p.row = append(slices.Clone(p.row), x)
	return true
}

func (p *plain) give(pick int) (note, bool) {
	if len(p.row) == 0 {
		return note{}, false
	}
	place := p.place(pick)
	x := p.row[place]
	p.row = p.without(place)
	return x, true
}

func (p *plain) twice(pick int) bool {
	if len(p.row) == 0 {
		return false
	}
	return p.send(p.row[p.place(pick)])
}

func (p *plain) late(pick int) bool {
	x, ok := p.give(pick)
	if ok {
		p.row = append(p.row, x)
	}
	return ok
}

func (p *plain) drop(node int) int {
	many := 0
	for i := len(p.row) - 1; i >= 0; i-- {
		if p.row[i].from == node || p.row[i].to == node {
			p.row = p.without(i)
			many++
		}
	}
	return many
}

// call is one of the five calls that change a row.
type call struct {
	name string
	pick int // a node, of drop
	sent note
}

// both does a call to a Net and by the words, and tells whether they answer the same.
func (p *plain) both(t *testing.T, n *net.Net, c call) {
	t.Helper()
	switch c.name {
	case "send":
		send(t, n, c.sent, p.send(c.sent))
	case "give":
		want, ok := p.give(c.pick)
		give(t, n, c.pick, want, ok)
	case "twice":
		twice(t, n, c.pick, p.twice(c.pick))
	case "late":
		late(t, n, c.pick, p.late(c.pick))
	case "drop":
		drop(t, n, c.pick, p.drop(c.pick))
	default:
		t.Fatalf("no call: %v", c)
	}
	size(t, n, len(p.row))
}

// picks is some for a row of so many: each place of the first two and of the last two rounds, the ends, and numbers whose lowest digits are those of a place.
func picks(many int) []int {
	l := []int{0, 1, 2, math.MaxInt - 1, math.MaxInt, 1 << 32, 1<<32 + 1, 1 << 31, 1<<31 + 1, 1 << 16, 1<<16 + 1, 255, 256, 257,
		-1, -2, -3, -many, -many - 1, 1 - many, math.MinInt, math.MinInt + 1, -1 << 32, 1 - 1<<32, -1 << 31, -1<<31 - 1}
	for _, near := range []int{-1, 0, 1} {
		l = append(l, max(many+near, 0), max(2*many+near, 0), max(1000*many+near, 0), max(many/2+near, 0))
	}
	return l
}

// drawn is a row of numbers that look drawn by chance, the same each time.
type drawn uint64

func (d *drawn) below(n int) int {
	*d = *d*6364136223846793005 + 1442695040888963407
	return int(uint64(*d)>>33) % n
}

// bytes is so many or fewer of them, of any kind.
func (d *drawn) bytes(most int) string {
	b := make([]byte, d.below(most+1))
	for i := range b {
		b[i] = byte(d.below(256))
	}
	return string(b)
}

func (d *drawn) note() note {
	return note{d.below(6), d.below(6), d.bytes(9)}
}

// call is mostly one that changes a row of so many.
func (d *drawn) call(many int) call {
	c := call{sent: d.note(), pick: d.below(many + 3)}
	if d.below(4) == 0 {
		l := picks(many)
		c.pick = l[d.below(len(l))]
	}
	switch x := d.below(32); {
	case x < 12:
		c.name = "send"
	case x < 17:
		c.name = "give"
	case x < 24:
		c.name = "twice"
	case x < 31:
		c.name = "late"
	default:
		c.name, c.pick = "drop", d.below(8)
	}
	return c
}

// numbered is so many messages, each other than the others.
func numbered(many int) []note {
	var l []note
	for i := range many {
		l = append(l, note{i, -i - 1, strconv.Itoa(i)})
	}
	return l
}
