package link_test

import (
	"math"
	"strings"
	"testing"

	"gauntlet/api"
	"gauntlet/link"
)

// P16.1: New

func TestNewHasNothing(t *testing.T) {
	for _, id := range []int{0, 1, -1, 63, 64, -64, -65, 1 << 31, 1 << 32, -1 << 32, math.MaxInt, math.MinInt} {
		l := link.New(id)
		counts(t, l, 0, 0, 0)
		ticks(t, l, 12)
		counts(t, l, 0, 0, 0)
	}
}

// The packets of some ids, byte by byte.
func TestIdsByHand(t *testing.T) {
	most := "\xff\xff\xff\xff\xff\xff\xff\xff\xff\x01"
	for _, x := range []struct {
		id   int
		laid string
	}{
		{0, "\x00"},
		{1, "\x02"},
		{-1, "\x01"},
		{7, "\x0e"},
		{64, "\x80\x01"},
		{-65, "\x81\x01"},
		{math.MaxInt, "\xfe" + most[1:]},
		{math.MinInt, most},
	} {
		a, b := link.New(x.id), link.New(x.id)
		first := record(x.laid + "\x02" + "\x00" + "\x02" + "x") // the number 1, the ack 0, a row of 1
		ack := record(x.laid + "\x00" + "\x02")
		send(t, a, "x", api.OK, first)
		hear(t, b, first, []string{"x"}, ack)
		hear(t, a, ack, nil)
		counts(t, a, 0, 1, 0)
		counts(t, b, 0, 1, 0)
	}
}

// A packet of which each byte is written down: id 7, number 1, ack 0, a row of one byte.
func TestAPacketByHand(t *testing.T) {
	l := link.New(7)
	got, e := l.Send([]byte("x"))
	if e != api.OK || len(got) != 1 || len(got[0]) != 17 {
		t.Fatalf("Send: got %x, %v", got, e)
	}
	if head := string(got[0][:4]); head != "\x05\x00\x00\x00" {
		t.Errorf("how many bytes are held: got %x", head)
	}
	if held := string(got[0][8:13]); held != "\x0e\x02\x00\x02x" {
		t.Errorf("what is held: got %x", held)
	}
}

// P16.1: Send

func TestSendOfNoBytes(t *testing.T) {
	for _, none := range [][]byte{nil, {}, []byte("abc")[:0]} {
		l := link.New(3)
		got, e := l.Send(none)
		if e != api.OK || len(got) != 1 || string(got[0]) != withRow(3, 1, 0, "") {
			t.Fatalf("Send of no bytes: got %x, %v", got, e)
		}
		counts(t, l, 1, 1, 0)
		hear(t, link.New(3), withRow(3, 1, 0, ""), []string{""}, ackOnly(3, 1))
	}
}

func TestSendOfMaxLoad(t *testing.T) {
	for _, many := range []int{1, 63, 64, 127, 128, 255, 256, 4094, 4095, 4096} {
		row := strings.Repeat("\xa5", many)
		l := link.New(3)
		send(t, l, row, api.OK, withRow(3, 1, 0, row))
		counts(t, l, 1, 1, 0)
		hear(t, link.New(3), withRow(3, 1, 0, row), []string{row}, ackOnly(3, 1))
	}
}

func TestSendOfMoreThanMaxLoad(t *testing.T) {
	for _, many := range []int{4097, 4098, 8192, 1 << 16, 1<<16 + 1, 1 << 20} {
		l := link.New(3)
		for range 3 {
			send(t, l, strings.Repeat("x", many), api.ErrLong)
			counts(t, l, 0, 0, 0)
		}
		ticks(t, l, 6) // nothing is under way
		send(t, l, "a", api.OK, withRow(3, 1, 0, "a"))
		counts(t, l, 1, 1, 0)
	}
}

func TestSendUpToWindow(t *testing.T) {
	l := sentRows(t, 5, 15) // one row less than Window is under way
	send(t, l, name(16), api.OK, withRow(5, 16, 0, name(16)))
	counts(t, l, 16, 16, 0)
	for i := 17; i <= 20; i++ { // just Window
		send(t, l, name(i), api.OK)
		counts(t, l, i, 16, 0)
	}
}

// What waited goes out in its order, where there is a place.
func TestWhatWaitsGoesOutInOrder(t *testing.T) {
	l := sentRows(t, 5, 40)
	hear(t, l, ackOnly(5, 1), nil, named(5, 17, 17, 0)...)
	counts(t, l, 39, 17, 0)
	hear(t, l, ackOnly(5, 4), nil, named(5, 18, 20, 0)...)
	counts(t, l, 36, 20, 0)
	send(t, l, name(41), api.OK)
	hear(t, l, ackOnly(5, 20), nil, named(5, 21, 36, 0)...)
	counts(t, l, 21, 36, 0)
	hear(t, l, ackOnly(5, 35), nil, named(5, 37, 41, 0)...)
	counts(t, l, 6, 41, 0)
	for i := 42; i <= 51; i++ {
		send(t, l, name(i), api.OK, withRow(5, i, 0, name(i)))
	}
	send(t, l, name(52), api.OK)
	counts(t, l, 17, 51, 0)
}

func TestSendTellsTheAckAsItIs(t *testing.T) {
	l := link.New(5)
	for i := 1; i <= 5; i++ {
		send(t, l, name(i), api.OK, withRow(5, i, i-1, name(i)))
		hear(t, l, withRow(5, i, 0, "theirs"), []string{"theirs"}, ackOnly(5, i))
	}
	hear(t, l, withRow(5, 9, 0, "not next"), nil, ackOnly(5, 5))
	send(t, l, name(6), api.OK, withRow(5, 6, 5, name(6)))
}

func TestTheThousandthRow(t *testing.T) {
	l := sentRows(t, 5, 999)
	send(t, l, name(1000), api.OK)
	counts(t, l, 1000, 16, 0)
	for range 3 {
		send(t, l, "lost", api.ErrFull)
		send(t, l, "", api.ErrFull)
		send(t, l, strings.Repeat("x", 4096), api.ErrFull)
		counts(t, l, 1000, 16, 0)
	}
	hear(t, l, ackOnly(5, 1), nil, named(5, 17, 17, 0)...) // there is room for just one more
	counts(t, l, 999, 17, 0)
	send(t, l, name(1001), api.OK)
	send(t, l, "lost", api.ErrFull)
	for i := 2; i <= 1001; i++ { // and what was refused never goes out
		if i+16 <= 1001 {
			hear(t, l, ackOnly(5, i), nil, named(5, i+16, i+16, 0)...)
		} else {
			hear(t, l, ackOnly(5, i), nil)
		}
	}
	counts(t, l, 0, 1001, 0)
}

// The Ticks are counted on behind a Send that is refused, or at which nothing goes out.
func TestSendWithoutAPacketLetsTheTicksBe(t *testing.T) {
	l := sentRows(t, 5, 999)
	ticks(t, l, 2)
	send(t, l, name(1000), api.OK)
	ticks(t, l, 1)
	send(t, l, "lost", api.ErrFull)
	ticks(t, l, 1)
	send(t, l, strings.Repeat("x", 4097), api.ErrLong)
	tick(t, l, named(5, 1, 16, 0)...)
}

func TestLongAheadOfFull(t *testing.T) {
	l := sentRows(t, 5, 1000)
	send(t, l, strings.Repeat("x", 4097), api.ErrLong)
	send(t, l, strings.Repeat("x", 4096), api.ErrFull)
	counts(t, l, 1000, 16, 0)
}

// A thousand rows may be there again and again: those that were owned to do not count.
func TestFullCountsWhatIsLeft(t *testing.T) {
	l := sentRows(t, 5, 1000)
	for round := range 3 {
		for i := 1; i <= 1000; i++ {
			l.Hear([]byte(ackOnly(5, round*1000+i)))
		}
		if l.Left() != 0 {
			t.Fatalf("Left: got %d", l.Left())
		}
		for i := range 1000 {
			if _, e := l.Send(nil); e != api.OK {
				t.Fatalf("Send %d: %v", i, e)
			}
		}
		send(t, l, "lost", api.ErrFull)
	}
}

// P16.1 to P16.3: the example

func TestTheExample(t *testing.T) {
	a, b := link.New(4), link.New(4)
	out, e := a.Send([]byte("x"))
	if e != api.OK || len(out) != 1 {
		t.Fatalf("Send: got %x, %v", out, e)
	}
	hear(t, b, string(out[0]), []string{"x"}, ackOnly(4, 1))
}
