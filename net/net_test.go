package net_test

import (
	"math"
	"slices"
	"strconv"
	"strings"
	"testing"

	"gauntlet/api"
	"gauntlet/net"
)

func send(t *testing.T, n *net.Net, x note, want bool) {
	t.Helper()
	if ok := n.Send(x.msg()); ok != want {
		t.Fatalf("Send(%v): got %v, want %v", x, ok, want)
	}
}

func give(t *testing.T, n *net.Net, pick int, want note, wantOK bool) {
	t.Helper()
	if m, ok := n.Give(pick); noteOf(m) != want || ok != wantOK {
		t.Fatalf("Give(%d): got %v, %v, want %v, %v", pick, noteOf(m), ok, want, wantOK)
	}
}

func twice(t *testing.T, n *net.Net, pick int, want bool) {
	t.Helper()
	if ok := n.Twice(pick); ok != want {
		t.Fatalf("Twice(%d): got %v, want %v", pick, ok, want)
	}
}

func late(t *testing.T, n *net.Net, pick int, want bool) {
	t.Helper()
	if ok := n.Late(pick); ok != want {
		t.Fatalf("Late(%d): got %v, want %v", pick, ok, want)
	}
}

func drop(t *testing.T, n *net.Net, node, want int) {
	t.Helper()
	if many := n.Drop(node); many != want {
		t.Fatalf("Drop(%d): got %d, want %d", node, many, want)
	}
}

func size(t *testing.T, n *net.Net, want int) {
	t.Helper()
	if many := n.Len(); many != want {
		t.Fatalf("Len: got %d, want %d", many, want)
	}
}

// row is a Net behind a Send of each.
func row(t *testing.T, l ...note) *net.Net {
	t.Helper()
	n := net.New()
	if n == nil {
		t.Fatal("New: nil")
	}
	for i, x := range l {
		size(t, n, i)
		send(t, n, x, true)
	}
	size(t, n, len(l))
	return n
}

// left tells whether just these are under way, in their order, by taking them all out.
func left(t *testing.T, n *net.Net, want ...note) {
	t.Helper()
	for i, x := range want {
		size(t, n, len(want)-i)
		give(t, n, 0, x, true)
	}
	none(t, n)
}

// none tells whether nothing is under way, and whether nothing can be done without a message.
func none(t *testing.T, n *net.Net) {
	t.Helper()
	for _, pick := range picks(0) {
		size(t, n, 0)
		if m, ok := n.Give(pick); m.From != 0 || m.To != 0 || m.Data != nil || ok {
			t.Fatalf("Give(%d) without a message: got %v, %v", pick, m, ok)
		}
		twice(t, n, pick, false)
		late(t, n, pick, false)
		drop(t, n, pick, 0)
	}
	size(t, n, 0)
}

// notes is a message for each letter of a text.
func notes(text string) []note {
	var l []note
	for _, c := range text {
		l = append(l, note{int(c), 1, string(c)})
	}
	return l
}

// P15.1: Send

func TestSendToAnEmptyRow(t *testing.T) {
	left(t, row(t))
	for _, x := range []note{{}, {1, 2, "a"}, {0, 0, "\x00"}, {-1, -1, ""}, {math.MinInt, math.MaxInt, "abc"}, {math.MaxInt, math.MinInt, "\xff\xfe"}} {
		n := row(t)
		send(t, n, x, true)
		left(t, n, x)
		send(t, n, x, true) // behind a row that was emptied, too
		left(t, n, x)
	}
}

func TestSendBehindTheOthers(t *testing.T) {
	for _, text := range []string{"a", "ab", "ba", "abcdefg", "gfedcba", "aaa", "abab"} {
		left(t, row(t, notes(text)...), notes(text)...)
	}
}

// The same message again is one more.
func TestSendOfTheSame(t *testing.T) {
	x := note{3, 4, "same"}
	n := row(t, x, x, x)
	give(t, n, 1, x, true)
	left(t, n, x, x)
}

func TestSendToAFullRow(t *testing.T) {
	l := numbered(api.MaxFlight)
	n := row(t, l[:api.MaxFlight-1]...)
	send(t, n, l[api.MaxFlight-1], true) // the last one for which there is a place
	for _, x := range []note{{}, {7, 7, "lost"}, l[0], {-1, 1, strings.Repeat("x", 5000)}} {
		send(t, n, x, false)
		size(t, n, api.MaxFlight)
	}
	left(t, n, l...)
}

// What was lost does not come, where there is a place again.
func TestSendWhereOneWasTakenOut(t *testing.T) {
	l := numbered(api.MaxFlight)
	for _, place := range []int{0, 1, 511, 1022, 1023} {
		n := row(t, l...)
		send(t, n, note{data: "lost"}, false)
		give(t, n, place, l[place], true)
		size(t, n, api.MaxFlight-1)
		last := note{5, 6, "last"}
		send(t, n, last, true)
		send(t, n, note{data: "lost"}, false)
		left(t, n, append(slices.Delete(slices.Clone(l), place, place+1), last)...)
	}
}

// P15.1: the picked one, by places worked out by hand

// pickedOf tells the place of picks in rows of 1, 2, 3, 7 and MaxFlight.
var pickedOf = []struct{ pick, one, two, three, seven, most int }{
	{0, 0, 0, 0, 0, 0},
	{1, 0, 1, 1, 1, 1},
	{2, 0, 0, 2, 2, 2},
	{3, 0, 1, 0, 3, 3},
	{4, 0, 0, 1, 4, 4},
	{5, 0, 1, 2, 5, 5},
	{6, 0, 0, 0, 6, 6},
	{7, 0, 1, 1, 0, 7},
	{8, 0, 0, 2, 1, 8},
	{13, 0, 1, 1, 6, 13},
	{14, 0, 0, 2, 0, 14},
	{1022, 0, 0, 2, 0, 1022},
	{1023, 0, 1, 0, 1, 1023},
	{1024, 0, 0, 1, 2, 0},
	{1025, 0, 1, 2, 3, 1},
	{2047, 0, 1, 1, 3, 1023},
	{2048, 0, 0, 2, 4, 0},
	{1 << 31, 0, 0, 2, 2, 0},
	{1 << 32, 0, 0, 1, 4, 0},
	{1<<32 + 5, 0, 1, 0, 2, 5},
	{math.MaxInt - 1, 0, 0, 0, 6, 1022},
	{math.MaxInt, 0, 1, 1, 0, 1023},
	{-1, 0, 0, 0, 0, 0},
	{-2, 0, 0, 0, 0, 0},
	{-3, 0, 0, 0, 0, 0},
	{-1023, 0, 0, 0, 0, 0},
	{-1024, 0, 0, 0, 0, 0},
	{-1 << 32, 0, 0, 0, 0, 0},
	{1 - 1<<32, 0, 0, 0, 0, 0},
	{math.MinInt + 1, 0, 0, 0, 0, 0},
	{math.MinInt, 0, 0, 0, 0, 0},
}

// eachPick hands on each row of pickedOf with each of its picks and the place of the picked one.
func eachPick(t *testing.T, use func(t *testing.T, l []note, pick, place int)) {
	for _, x := range pickedOf {
		t.Run(strconv.Itoa(x.pick), func(t *testing.T) {
			use(t, numbered(1), x.pick, x.one)
			use(t, numbered(2), x.pick, x.two)
			use(t, numbered(3), x.pick, x.three)
			use(t, numbered(7), x.pick, x.seven)
			use(t, numbered(api.MaxFlight), x.pick, x.most)
		})
	}
}

// but is a list without one place, and others behind it.
func but(l []note, place int, behind ...note) []note {
	return slices.Concat(l[:place], l[place+1:], behind)
}

func TestGive(t *testing.T) {
	eachPick(t, func(t *testing.T, l []note, pick, place int) {
		n := row(t, l...)
		give(t, n, pick, l[place], true)
		left(t, n, but(l, place)...)
	})
}

func TestTwice(t *testing.T) {
	eachPick(t, func(t *testing.T, l []note, pick, place int) {
		n := row(t, l...)
		if len(l) == api.MaxFlight {
			twice(t, n, pick, false)
			left(t, n, l...)
			return
		}
		twice(t, n, pick, true)
		left(t, n, slices.Concat(l, l[place:place+1])...)
	})
}

func TestLate(t *testing.T) {
	eachPick(t, func(t *testing.T, l []note, pick, place int) {
		n := row(t, l...)
		late(t, n, pick, true)
		left(t, n, but(l, place, l[place])...)
	})
}

func TestTheExample(t *testing.T) {
	a, b := note{1, 2, "a"}, note{2, 1, "b"}
	n := row(t, a, b)
	late(t, n, 0, true)
	give(t, n, 0, b, true)
	left(t, n, a)
}

func TestLateOfTheLastOne(t *testing.T) {
	for _, many := range []int{1, 2, 3, 7, api.MaxFlight - 1, api.MaxFlight} {
		l := numbered(many)
		n := row(t, l...)
		for range 3 {
			late(t, n, many-1, true)
			late(t, n, 2*many-1, true)
			size(t, n, many)
		}
		left(t, n, l...)
	}
}

// Each in turn behind all others: in the end all stand as they stood.
func TestLateGoesRound(t *testing.T) {
	for _, many := range []int{1, 2, 5, api.MaxFlight} {
		l := numbered(many)
		n := row(t, l...)
		for range many {
			late(t, n, 0, true)
		}
		left(t, n, l...)
	}
}

func TestWithoutAMessage(t *testing.T) {
	n := row(t)
	none(t, n)
	send(t, n, note{1, 2, "a"}, true) // what was asked of none has left nothing behind
	left(t, n, note{1, 2, "a"})
	send(t, n, note{1, 2, "a"}, true)
	drop(t, n, 2, 1)
	none(t, n)
}

// Where there is a place for one more, Twice takes it, and no more than it.
func TestTwiceUpToMaxFlight(t *testing.T) {
	l := numbered(api.MaxFlight)
	n := row(t, l[:api.MaxFlight-1]...)
	twice(t, n, 4, true)
	size(t, n, api.MaxFlight)
	twice(t, n, 4, false)
	give(t, n, 1023, l[4], true)
	twice(t, n, 1022, true)
	twice(t, n, 0, false)
	send(t, n, note{}, false)
	left(t, n, slices.Concat(l[:1023], l[1022:1023])...)
}

func TestTwiceFromOneToMaxFlight(t *testing.T) {
	x := note{8, 9, "many"}
	n := row(t, x)
	for i := range api.MaxFlight - 1 {
		size(t, n, i+1)
		twice(t, n, i, true)
	}
	twice(t, n, 0, false)
	left(t, n, slices.Repeat([]note{x}, api.MaxFlight)...)
}

// P15.1: Drop

func TestDrop(t *testing.T) {
	a, b, c, d, e := note{1, 2, "a"}, note{2, 3, "b"}, note{3, 1, "c"}, note{2, 2, "d"}, note{4, 3, "e"}
	for _, x := range []struct {
		name string
		node int
		many int
		left []note
	}{
		{"one to which and from which they go", 1, 2, []note{b, d, e}},
		{"one to which, from which, and to itself", 2, 3, []note{c, e}},
		{"one that has them at the ends", 3, 3, []note{a, d}},
		{"one from which they go alone", 4, 1, []note{a, b, c, d}},
		{"of nobody", 5, 0, []note{a, b, c, d, e}},
		{"0", 0, 0, []note{a, b, c, d, e}},
		{"below 0", -1, 0, []note{a, b, c, d, e}},
		{"beyond 32 digits", 1<<32 + 1, 0, []note{a, b, c, d, e}},
		{"beyond 8 digits", 257, 0, []note{a, b, c, d, e}},
		{"the greatest", math.MaxInt, 0, []note{a, b, c, d, e}},
		{"the least", math.MinInt, 0, []note{a, b, c, d, e}},
	} {
		t.Run(x.name, func(t *testing.T) {
			n := row(t, a, b, c, d, e)
			drop(t, n, x.node, x.many)
			size(t, n, 5-x.many)
			drop(t, n, x.node, 0)
			left(t, n, x.left...)
		})
	}
}

func TestDropOfANodeToWhichTheyGo(t *testing.T) {
	n := row(t, note{1, 9, "a"}, note{2, 8, "b"}, note{3, 9, "c"})
	drop(t, n, 9, 2)
	left(t, n, note{2, 8, "b"})
}

func TestDropOfAnyNumber(t *testing.T) {
	for _, node := range []int{0, 1, -1, math.MaxInt, math.MinInt, 1 << 32, -1 << 32} {
		to, from, both, neither := note{5, node, "to"}, note{node, 5, "from"}, note{node, node, "both"}, note{5, 6, "neither"}
		n := row(t, to, neither, both, neither, from, from)
		drop(t, n, node, 4)
		drop(t, n, node, 0)
		left(t, n, neither, neither)
	}
}

func TestDropOfAll(t *testing.T) {
	for _, many := range []int{1, 2, api.MaxFlight} {
		n := row(t, slices.Repeat([]note{{3, 4, "x"}}, many)...)
		drop(t, n, 3, many)
		none(t, n)
		send(t, n, note{3, 4, "y"}, true) // one that is dropped may be written to again
		left(t, n, note{3, 4, "y"})
	}
}

func TestDropFromAFullRow(t *testing.T) {
	var l, others []note
	for i := range api.MaxFlight {
		x := note{i % 3, 7, strconv.Itoa(i)}
		l = append(l, x)
		if i%3 != 2 {
			others = append(others, x)
		}
	}
	n := row(t, l...)
	drop(t, n, 2, 341)
	size(t, n, 683)
	for i := range 341 { // there is a place for each that is gone, and for no more
		x := note{9, 9, strconv.Itoa(i)}
		send(t, n, x, true)
		others = append(others, x)
	}
	send(t, n, note{}, false)
	left(t, n, others...)
}

// One that is there twice is dropped twice.
func TestDropBehindTwice(t *testing.T) {
	a, b := note{1, 2, "a"}, note{3, 4, "b"}
	n := row(t, a, b)
	twice(t, n, 0, true)
	twice(t, n, 1, true)
	late(t, n, 0, true)
	drop(t, n, 1, 2)
	left(t, n, b, b)
}
