package link_test

import (
	"strconv"
	"testing"

	"gauntlet/api"
	"gauntlet/link"
)

// P16.3: Tick

func TestTheFifthTick(t *testing.T) {
	for _, many := range []int{1, 2, 15, 16, 17, 40} {
		t.Run(strconv.Itoa(many), func(t *testing.T) {
			l := sentRows(t, 7, many)
			under := min(many, 16)
			for round := range 4 { // the tenth, the fifteenth and the twentieth, too
				for range 4 {
					tick(t, l)
					counts(t, l, many, under*(round+1), 0)
				}
				tick(t, l, named(7, 1, under, 0)...)
				counts(t, l, many, under*(round+2), 0)
			}
		})
	}
}

func TestTicksWithoutRows(t *testing.T) {
	l := link.New(7)
	ticks(t, l, 23)
	counts(t, l, 0, 0, 0)
	hear(t, l, withRow(7, 1, 0, "theirs"), []string{"theirs"}, ackOnly(7, 1))
	ticks(t, l, 23) // a packet without a row does not go out once more
	counts(t, l, 0, 1, 0)
}

// The ack as it stands, not as it stood when the rows went out first.
func TestTickTellsTheAckAsItStands(t *testing.T) {
	l := sentRows(t, 7, 3)
	hear(t, l, withRow(7, 1, 0, "theirs"), []string{"theirs"}, ackOnly(7, 1))
	ticks(t, l, 4)
	tick(t, l, named(7, 1, 3, 1)...)
	ticks(t, l, 2)
	hear(t, l, withRow(7, 2, 0, "theirs"), []string{"theirs"}, ackOnly(7, 2))
	ticks(t, l, 2)
	hear(t, l, withRow(7, 3, 0, "theirs"), []string{"theirs"}, ackOnly(7, 3))
	tick(t, l, named(7, 1, 3, 3)...)
	counts(t, l, 3, 3+3+3+3, 0)
}

// Those that were owned to meanwhile do not go out, those that came under way do.
func TestTickTellsWhatIsUnderWay(t *testing.T) {
	l := sentRows(t, 7, 20)
	hear(t, l, ackOnly(7, 3), nil, named(7, 17, 19, 0)...)
	ticks(t, l, 4)
	tick(t, l, named(7, 4, 19, 0)...)
	ticks(t, l, 3)
	hear(t, l, ackOnly(7, 10), nil, named(7, 20, 20, 0)...)
	ticks(t, l, 4)
	tick(t, l, named(7, 11, 20, 0)...)
	counts(t, l, 10, 16+3+16+1+10, 0)
}

// P16.3: since a packet with a row went out last

func TestSendBeginsTheTicksAnew(t *testing.T) {
	for before := range 5 {
		l := sentRows(t, 7, 2)
		ticks(t, l, before)
		send(t, l, name(3), api.OK, withRow(7, 3, 0, name(3)))
		ticks(t, l, 4)
		tick(t, l, named(7, 1, 3, 0)...)
		counts(t, l, 3, 3+3, 0)
	}
}

func TestHearWithARowThatGoesOutBeginsTheTicksAnew(t *testing.T) {
	for before := range 5 {
		l := sentRows(t, 7, 17)
		ticks(t, l, before)
		hear(t, l, ackOnly(7, 1), nil, named(7, 17, 17, 0)...)
		ticks(t, l, 4)
		tick(t, l, named(7, 2, 17, 0)...)

		l = sentRows(t, 7, 17)
		ticks(t, l, before)
		hear(t, l, withRow(7, 1, 1, "theirs"), []string{"theirs"}, named(7, 17, 17, 1)...)
		ticks(t, l, 4)
		tick(t, l, named(7, 2, 17, 1)...)
		counts(t, l, 16, 16+1+16, 0)
	}
}

func TestTickBeginsTheTicksAnew(t *testing.T) {
	l := sentRows(t, 7, 2)
	ticks(t, l, 4)
	tick(t, l, named(7, 1, 2, 0)...)
	ticks(t, l, 3)
	hear(t, l, ackOnly(7, 1), nil)
	ticks(t, l, 1)
	tick(t, l, named(7, 2, 2, 0)...)
	counts(t, l, 1, 2+2+1, 0)
}

// A packet without a row, and what comes in vain, let the Ticks be.
func TestWithoutARowTheTicksGoOn(t *testing.T) {
	for before := range 5 {
		l := sentRows(t, 7, 2)
		ticks(t, l, before)
		hear(t, l, withRow(7, 1, 0, "theirs"), []string{"theirs"}, ackOnly(7, 1))
		hear(t, l, withRow(7, 1, 0, "theirs"), nil, ackOnly(7, 1))
		hear(t, l, "no packet", nil)
		hear(t, l, ackOnly(8, 2), nil)
		hear(t, l, ackOnly(7, 1), nil)
		ticks(t, l, 4-before)
		tick(t, l, named(7, 2, 2, 1)...)
		counts(t, l, 1, 2+2+1, 3)
	}
}

// P16.3: since there was a Tick without rows under way

func TestATickWithoutRowsBeginsTheTicksAnew(t *testing.T) {
	for before := range 5 {
		l := sentRows(t, 7, 2)
		ticks(t, l, before)
		hear(t, l, ackOnly(7, 2), nil)
		ticks(t, l, 1)
		counts(t, l, 0, 2, 0)
		send(t, l, name(3), api.OK, withRow(7, 3, 0, name(3)))
		ticks(t, l, 4)
		tick(t, l, withRow(7, 3, 0, name(3)))
		counts(t, l, 1, 2+1+1, 0)
	}
}

// What goes out behind Ticks without rows waits for five of its own.
func TestTicksWithoutRowsAreNotCounted(t *testing.T) {
	for before := range 12 {
		l := link.New(7)
		ticks(t, l, before)
		send(t, l, name(1), api.OK, withRow(7, 1, 0, name(1)))
		ticks(t, l, 4)
		tick(t, l, withRow(7, 1, 0, name(1)))
		counts(t, l, 1, 2, 0)
	}
}

// The rows under way need not be the same at each of the five.
func TestTicksAreOfTheEndNotOfARow(t *testing.T) {
	l := sentRows(t, 7, 3)
	for i := 1; i <= 2; i++ {
		ticks(t, l, 2)
		hear(t, l, ackOnly(7, i), nil)
	}
	tick(t, l, named(7, 3, 3, 0)...)
}

// P16.3: Left and Stats

func TestLeftAndStatsChangeNothing(t *testing.T) {
	l := sentRows(t, 7, 17)
	for i := range 4 {
		for range 10 {
			counts(t, l, 17, 16, i)
		}
		tick(t, l)
		hear(t, l, "", nil)
	}
	tick(t, l, named(7, 1, 16, 0)...)
	counts(t, l, 17, 32, 4)
}

func TestStatsOfEachCall(t *testing.T) {
	l := link.New(7)
	send(t, l, name(1), api.OK, withRow(7, 1, 0, name(1)))
	counts(t, l, 1, 1, 0)
	hear(t, l, withRow(7, 1, 0, "theirs"), []string{"theirs"}, ackOnly(7, 1)) // one without a row went out
	counts(t, l, 1, 2, 0)
	hear(t, l, withRow(7, 1, 0, "theirs"), nil, ackOnly(7, 1)) // in vain, and one went out all the same
	counts(t, l, 1, 3, 1)
	hear(t, l, ackOnly(7, 0), nil) // one that has no row is not in vain
	counts(t, l, 1, 3, 1)
	hear(t, l, ackOnly(6, 1), nil)
	counts(t, l, 1, 3, 2)
	ticks(t, l, 4)
	tick(t, l, withRow(7, 1, 1, name(1)))
	counts(t, l, 1, 4, 2)
	hear(t, l, ackOnly(7, 1), nil)
	counts(t, l, 0, 4, 2)
	hear(t, l, ackOnly(7, 1), nil)
	counts(t, l, 0, 4, 2)
}
