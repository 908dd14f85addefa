package link_test

import (
	"math"
	"strings"
	"testing"

	"gauntlet/api"
	"gauntlet/link"
)

// midway is an end that has rows that were owned to (2), under way (16: 3 to 18), that wait (2: 19 and 20), rows that came (3), and four Ticks behind it.
func midway(t *testing.T) *link.Link {
	t.Helper()
	l := sentRows(t, 7, 18)
	hear(t, l, ackOnly(7, 2), nil, named(7, 17, 18, 0)...)
	send(t, l, name(19), api.OK)
	send(t, l, name(20), api.OK)
	for i := 1; i <= 3; i++ {
		hear(t, l, withRow(7, i, 2, "theirs"), []string{"theirs"}, ackOnly(7, i))
	}
	ticks(t, l, 4)
	counts(t, l, 18, 21, 0)
	return l
}

// untouched tells whether an end is as midway left it, but for what came in vain.
func untouched(t *testing.T, l *link.Link, vain int) {
	t.Helper()
	counts(t, l, 18, 21, vain)
	tick(t, l, named(7, 3, 18, 3)...)
	hear(t, l, withRow(7, 4, 18, "next"), []string{"next"}, named(7, 19, 20, 4)...)
	counts(t, l, 2, 39, vain)
}

// refused tells whether an end takes bytes for no packet of its own.
func refused(t *testing.T, b string) {
	t.Helper()
	l := midway(t)
	for vain := 1; vain <= 3; vain++ {
		hear(t, l, b, nil)
		counts(t, l, 18, 21, vain)
	}
	untouched(t, l, 3)
}

// P16.2: what is not one record

func TestHearOfNoBytes(t *testing.T) {
	refused(t, "")
	l := midway(t)
	rows, out := l.Hear(nil)
	if len(rows) != 0 || len(out) != 0 {
		t.Fatalf("Hear of nil: got %q, %x", rows, out)
	}
	untouched(t, l, 1)
}

func TestHearOfBytesCutShort(t *testing.T) {
	for _, b := range []string{withRow(7, 4, 18, "next"), ackOnly(7, 18), withRow(7, 4, 18, "")} {
		for n := range len(b) {
			refused(t, b[:n])
			refused(t, b[n+1:])
		}
	}
}

func TestHearOfMoreThanARecord(t *testing.T) {
	next, ack := withRow(7, 4, 18, "next"), ackOnly(7, 18)
	for _, b := range []string{
		next + "\x00", next + "x", ack + "\x00",
		next + next, ack + ack, ack + next, next + ack,
		next + withRow(7, 5, 18, "the one behind it"),
		next + record(""), record("") + next,
		"\x00" + next, "\x00" + ack,
		next + strings.Repeat("\x00", 12),
	} {
		refused(t, b)
	}
}

func TestHearOfATurnedByte(t *testing.T) {
	for _, b := range []string{withRow(7, 4, 18, "next"), ackOnly(7, 18)} {
		for i := range len(b) {
			for _, turn := range []byte{1, 2, 0x40, 0x80, 0xff} {
				turned := []byte(b)
				turned[i] ^= turn
				refused(t, string(turned))
			}
		}
	}
}

// P16.2: records that hold no packet

func TestHearOfARecordWithoutAPacket(t *testing.T) {
	id, next, ack := num(7), num(4), num(18)
	long := "\x84\x80\x80\x80\x80\x80\x80\x80\x80\x00" // a Num whose last byte is none
	for what, held := range map[string]string{
		"nothing":                     "",
		"an id alone":                 id,
		"an id cut short":             "\x8e",
		"no ack":                      id + next,
		"a number cut short":          id + "\x84",
		"an ack cut short":            id + next + "\x84",
		"an ack cut short, and 0":     id + num(0) + "\x84",
		"no ack, and 0":               id + num(0),
		"no row":                      id + next + ack,
		"a length cut short":          id + next + ack + "\x84",
		"a row cut short":             id + next + ack + num(4) + "nex",
		"a row without a byte of it":  id + next + ack + num(4),
		"a length below 0":            id + next + ack + num(-1) + "next",
		"the least length":            id + next + ack + num(math.MinInt),
		"the greatest length":         id + next + ack + num(math.MaxInt) + "next",
		"a length above 2^24":         id + next + ack + num(1<<24+1) + "next",
		"a row that is none":          id + next + ack + long + "next",
		"an id that is none":          "\x8e\x00" + next + ack + num(4) + "next",
		"a number that is none":       id + "\x88\x00" + ack + num(4) + "next",
		"a number of ten bytes":       id + long + ack + num(4) + "next",
		"an ack that is none":         id + next + "\xa4\x00" + num(4) + "next",
		"an ack of eleven bytes":      id + next + strings.Repeat("\xff", 10) + "\x01" + num(4) + "next",
		"an ack beyond 64 digits":     id + next + strings.Repeat("\xff", 9) + "\x02" + num(4) + "next",
		"something behind a row":      id + next + ack + num(4) + "next" + "\x00",
		"a row behind a row":          id + next + ack + num(4) + "next" + num(4) + "next",
		"something behind an ack":     id + num(0) + ack + "\x00",
		"a row behind 0":              id + num(0) + ack + num(4) + "next",
		"a row of no bytes behind 0":  id + num(0) + ack + num(0),
		"two packets in a record":     id + num(0) + ack + id + num(0) + ack,
		"a packet of another id":      num(8) + next + ack + num(4) + "next",
		"an ack of another id":        num(8) + num(0) + ack,
		"the id below 0":              num(-7) + next + ack + num(4) + "next",
		"the id turned":               num(^7) + next + ack + num(4) + "next",
		"the id 0":                    num(0) + next + ack + num(4) + "next",
		"an id like it in 32 digits":  num(1<<32+7) + next + ack + num(4) + "next",
		"an id like it in 8 digits":   num(256+7) + next + ack + num(4) + "next",
		"the greatest id":             num(math.MaxInt) + next + ack + num(4) + "next",
		"a record in a record":        withRow(7, 4, 18, "next"),
		"the parts in another order":  next + id + ack + num(4) + "next",
		"bytes of any kind":           "\xff\xff\xff\xff\xff\xff\xff\xff\xff\xff\xff\xff",
		"noughts, more than a packet": strings.Repeat("\x00", 9),
	} {
		t.Run(what, func(t *testing.T) { refused(t, record(held)) })
	}
}

func TestHearOfANumberBelowNought(t *testing.T) {
	for _, number := range []int{-1, -2, -4, math.MinInt, math.MinInt + 1, math.MinInt + 4, -1 << 32, -1<<32 + 4} {
		refused(t, withRow(7, number, 18, "next"))
		refused(t, record(num(7)+num(number)+num(18)))
	}
}

func TestHearOfAnAckBelowNought(t *testing.T) {
	for _, ack := range []int{-1, -2, -18, math.MinInt, math.MinInt + 1, math.MinInt + 18, -1 << 32, -1<<32 + 18} {
		refused(t, withRow(7, 4, ack, "next"))
		refused(t, withRow(7, 9, ack, "not next"))
		refused(t, ackOnly(7, ack))
	}
}

func TestHearOfTheLongestRow(t *testing.T) {
	for _, many := range []int{4095, 4096} {
		l := midway(t)
		row := strings.Repeat("\x5a", many)
		hear(t, l, withRow(7, 4, 2, row), []string{row}, ackOnly(7, 4))
		counts(t, l, 18, 22, 0)
	}
	for _, many := range []int{4097, 4098, 8192, 65500} {
		refused(t, withRow(7, 4, 18, strings.Repeat("\x5a", many)))
	}
	refused(t, withRow(7, 4, 18, strings.Repeat("\x5a", 1<<16))) // a record that is too long
}

// A row that is too long is none wherever its number stands, and its ack is not looked at.
func TestHearOfALongRowThatIsNotNext(t *testing.T) {
	for _, number := range []int{1, 3, 5, math.MaxInt} {
		refused(t, withRow(7, number, 18, strings.Repeat("\x5a", 4097)))
	}
}

func TestHearOfAnotherId(t *testing.T) {
	ids := []int{0, 1, -1, 7, -7, -8, 8, 263, 1 << 32, 1<<32 + 7, math.MaxInt, math.MinInt}
	for _, mine := range ids {
		for _, theirs := range ids {
			l := link.New(mine)
			if mine == theirs {
				hear(t, l, withRow(theirs, 1, 0, "x"), []string{"x"}, ackOnly(mine, 1))
				counts(t, l, 0, 1, 0)
				continue
			}
			hear(t, l, withRow(theirs, 1, 0, "x"), nil)
			hear(t, l, ackOnly(theirs, 0), nil)
			counts(t, l, 0, 0, 2)
		}
	}
}

// P16.2: the ack

func TestHearOfAnAck(t *testing.T) {
	for _, x := range []struct {
		what      string
		ack, left int
		to        int // the last one that goes out; they begin at 19
	}{
		{"0", 0, 18, 18},
		{"of what was owned to already", 1, 18, 18},
		{"of the last one that was owned to", 2, 18, 18},
		{"of the first one under way", 3, 17, 19},
		{"of two under way", 4, 16, 20},
		{"of three under way", 5, 15, 20},
		{"of all but one", 17, 3, 20},
		{"of all under way", 18, 2, 20},
		{"of one that waits", 19, 2, 20},
		{"of all", 20, 2, 20},
		{"beyond what was sent", 21, 2, 20},
		{"far beyond", 1 << 32, 2, 20},
		{"the greatest", math.MaxInt, 2, 20},
	} {
		t.Run(x.what, func(t *testing.T) {
			l := midway(t)
			hear(t, l, ackOnly(7, x.ack), nil, named(7, 19, x.to, 3)...)
			counts(t, l, x.left, 21+x.to-18, 0)
			hear(t, l, ackOnly(7, x.ack), nil) // again: but for those that waited there is nothing more to own to
			if x.ack < 19 {
				counts(t, l, x.left, 21+x.to-18, 0)
			}
		})
	}
}

// An ack beyond what was under way owns to what went out by it only as it comes again.
func TestAnAckBeyondComesAgain(t *testing.T) {
	for _, ack := range []int{100, math.MaxInt} {
		l := sentRows(t, 7, 40)
		hear(t, l, ackOnly(7, ack), nil, named(7, 17, 32, 0)...)
		counts(t, l, 24, 32, 0)
		hear(t, l, ackOnly(7, ack), nil, named(7, 33, 40, 0)...)
		counts(t, l, 8, 40, 0)
		hear(t, l, ackOnly(7, ack), nil)
		counts(t, l, 0, 40, 0)
		hear(t, l, ackOnly(7, ack), nil) // where nothing is under way
		send(t, l, name(41), api.OK, withRow(7, 41, 0, name(41)))
		counts(t, l, 1, 41, 0)
		hear(t, l, ackOnly(7, 40), nil)
		counts(t, l, 1, 41, 0)
		hear(t, l, ackOnly(7, 41), nil)
		counts(t, l, 0, 41, 0)
	}
}

// An ack of an end that has Sent nothing owns to nothing, now and later.
func TestAnAckWithoutRows(t *testing.T) {
	for _, ack := range []int{0, 1, 16, math.MaxInt} {
		l := link.New(7)
		hear(t, l, ackOnly(7, ack), nil)
		counts(t, l, 0, 0, 0)
		send(t, l, name(1), api.OK, withRow(7, 1, 0, name(1)))
		counts(t, l, 1, 1, 0)
		hear(t, l, ackOnly(7, 0), nil)
		counts(t, l, 1, 1, 0)
		hear(t, l, ackOnly(7, 1), nil)
		counts(t, l, 0, 1, 0)
	}
}

// Acks that come late, behind greater ones, change nothing.
func TestLateAcks(t *testing.T) {
	l := sentRows(t, 7, 16)
	for _, ack := range []int{5, 1, 4, 5, 0, 6, 3, 12, 11, 16, 15, 16, 0} {
		hear(t, l, ackOnly(7, ack), nil)
	}
	counts(t, l, 0, 16, 0)
}

// P16.2: the row

func TestHearOfARow(t *testing.T) {
	for _, x := range []struct {
		what   string
		number int
		comes  bool
	}{
		{"the next one", 4, true},
		{"the one that came last", 3, false},
		{"one that came before it", 2, false},
		{"the first one", 1, false},
		{"one beyond the next one", 5, false},
		{"two beyond it", 6, false},
		{"like the next one in 32 digits", 1<<32 + 4, false},
		{"like the next one in 8 digits", 256 + 4, false},
		{"the greatest", math.MaxInt, false},
	} {
		t.Run(x.what, func(t *testing.T) {
			for _, ack := range []int{0, 2} { // nothing goes out but a packet without a row
				l := midway(t)
				if x.comes {
					hear(t, l, withRow(7, x.number, ack, "it"), []string{"it"}, ackOnly(7, 4))
					counts(t, l, 18, 22, 0)
				} else {
					hear(t, l, withRow(7, x.number, ack, "it"), nil, ackOnly(7, 3))
					counts(t, l, 18, 22, 1)
				}
			}
			for _, ack := range []int{3, 4, 18, math.MaxInt} { // rows that wait go out, and nothing beside
				l := midway(t)
				to := min(ack+16, 20)
				if ack > 18 {
					to = 20
				}
				if x.comes {
					hear(t, l, withRow(7, x.number, ack, "it"), []string{"it"}, named(7, 19, to, 4)...)
				} else {
					hear(t, l, withRow(7, x.number, ack, "it"), nil, named(7, 19, to, 3)...)
				}
			}
		})
	}
}

// A row that is the next one and says the same as one that came, or nothing, comes all the same.
func TestRowsAlike(t *testing.T) {
	l := link.New(7)
	for i, row := range []string{"a", "a", "", "", "a", "b"} {
		hear(t, l, withRow(7, i+1, 0, row), []string{row}, ackOnly(7, i+1))
	}
	counts(t, l, 0, 6, 0)
}

// One beyond the next one is not kept: it must come once more.
func TestARowAheadIsNotKept(t *testing.T) {
	l := link.New(7)
	hear(t, l, withRow(7, 2, 0, "b"), nil, ackOnly(7, 0))
	hear(t, l, withRow(7, 3, 0, "c"), nil, ackOnly(7, 0))
	hear(t, l, withRow(7, 1, 0, "a"), []string{"a"}, ackOnly(7, 1))
	hear(t, l, withRow(7, 1, 0, "a"), nil, ackOnly(7, 1))
	hear(t, l, withRow(7, 3, 0, "c"), nil, ackOnly(7, 1))
	hear(t, l, withRow(7, 2, 0, "b"), []string{"b"}, ackOnly(7, 2))
	hear(t, l, withRow(7, 3, 0, "c"), []string{"c"}, ackOnly(7, 3))
	counts(t, l, 0, 7, 4)
}

// More rows come than Window, and than fit in a byte of a Num.
func TestManyRowsCome(t *testing.T) {
	l := link.New(7)
	for i := 1; i <= 3000; i++ {
		hear(t, l, withRow(7, i, 0, name(i)), []string{name(i)}, ackOnly(7, i))
	}
	counts(t, l, 0, 3000, 0)
	send(t, l, "x", api.OK, withRow(7, 1, 3000, "x"))
}

// P16.2: what goes out

func TestAPacketWithoutARowIsNotAnswered(t *testing.T) {
	for _, many := range []int{0, 1, 16} {
		l := sentRows(t, 7, many)
		for _, ack := range []int{0, many} {
			hear(t, l, ackOnly(7, ack), nil)
			counts(t, l, many-ack, many, 0)
		}
	}
}

// What an ack frees and what a row brings, in one packet.
func TestAnAckAndARow(t *testing.T) {
	for _, x := range []struct{ many, ack, from, to int }{
		{17, 1, 17, 17},
		{17, 16, 17, 17},
		{20, 2, 17, 18},
		{20, 16, 17, 20},
		{50, 16, 17, 32},
		{1000, 16, 17, 32},
		{1000, 99, 17, 32},
	} {
		l := sentRows(t, 7, x.many)
		out := named(7, x.from, x.to, 1) // with the ack of the row that came
		hear(t, l, withRow(7, 1, x.ack, "r"), []string{"r"}, out...)
		counts(t, l, x.many-min(x.ack, 16), 16+len(out), 0)

		l = sentRows(t, 7, x.many)
		out = named(7, x.from, x.to, 0) // of one that is not the next one nothing is told
		hear(t, l, withRow(7, 2, x.ack, "r"), nil, out...)
		counts(t, l, x.many-min(x.ack, 16), 16+len(out), 1)
	}
}

// Where an ack frees places, but nothing waits, a row is answered by a packet without one.
func TestAnAckThatFreesAllAndARow(t *testing.T) {
	for _, many := range []int{1, 15, 16} {
		l := sentRows(t, 7, many)
		hear(t, l, withRow(7, 1, many, "r"), []string{"r"}, ackOnly(7, 1))
		counts(t, l, 0, many+1, 0)
		hear(t, l, withRow(7, 1, many, "r"), nil, ackOnly(7, 1))
		counts(t, l, 0, many+2, 1)
	}
}

// An end that hears what it told itself takes it for the other one's.
func TestHearOfItsOwn(t *testing.T) {
	l := link.New(7)
	send(t, l, "x", api.OK, withRow(7, 1, 0, "x"))
	hear(t, l, withRow(7, 1, 0, "x"), []string{"x"}, ackOnly(7, 1))
	hear(t, l, ackOnly(7, 1), nil)
	counts(t, l, 0, 2, 0)
}
