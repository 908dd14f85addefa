package link_test

import (
	"slices"
	"strings"
	"testing"

	"gauntlet/api"
	"gauntlet/link"
)

// scribble fills a list and its spare room.
func scribble(b []byte) {
	b = b[:cap(b)]
	for i := range b {
		b[i] = '#'
	}
}

// scribbleAll fills lists, and then takes them away from the list that they stand in.
func scribbleAll(l [][]byte) {
	for _, b := range l {
		scribble(b)
	}
	l = l[:cap(l)]
	for i := range l {
		l[i] = []byte("another one")
	}
}

// P16.5: what is handed in

func TestWhatIsSentStays(t *testing.T) {
	roomy := []byte("row|spare room")
	l := link.New(7)
	for range 20 {
		l.Send(roomy[:3])
		scribbleAll(l.Tick())
	}
	l.Hear([]byte(withRow(7, 1, 3, "theirs")))
	if string(roomy) != "row|spare room" {
		t.Errorf("what was handed in is another one: %q", roomy)
	}
	full := []byte("lost|spare room")
	for l.Left() < 1000 {
		l.Send(nil)
	}
	l.Send(full[:4])
	long := slices.Repeat([]byte("x"), 5000)
	l.Send(long)
	if string(full) != "lost|spare room" || string(long) != strings.Repeat("x", 5000) {
		t.Errorf("what was refused is another one: %q", full)
	}
}

func TestWhatIsHeardStays(t *testing.T) {
	for _, b := range []string{withRow(7, 1, 1, "theirs"), withRow(7, 9, 1, "theirs"), ackOnly(7, 1), "no packet", withRow(8, 1, 1, "theirs"), record(""), ""} {
		roomy := []byte(b + "|spare room")
		l := sentRows(t, 7, 18)
		for range 3 {
			rows, out := l.Hear(roomy[:len(b)])
			scribbleAll(rows)
			scribbleAll(out)
		}
		if string(roomy) != b+"|spare room" {
			t.Errorf("what was handed in is another one: %q", roomy)
		}
	}
}

// What is changed behind a Send is changed neither where the row is under way nor where it waits.
func TestWhatIsSentIsNotKept(t *testing.T) {
	l := link.New(7)
	b := make([]byte, 20, 30)
	for i := 1; i <= 20; i++ {
		copy(b, name(i))
		l.Send(b[:len(name(i))])
		scribble(b)
	}
	ticks(t, l, 4)
	tick(t, l, named(7, 1, 16, 0)...)
	hear(t, l, ackOnly(7, 3), nil, named(7, 17, 19, 0)...)
	ticks(t, l, 4)
	tick(t, l, named(7, 4, 19, 0)...)
}

func TestWhatIsHeardIsNotKept(t *testing.T) {
	l := sentRows(t, 7, 2)
	var came [][]byte
	for i := 1; i <= 5; i++ {
		b := []byte(withRow(7, i, 0, name(i)) + "spare")
		rows, _ := l.Hear(b[:len(b)-5])
		scribble(b)
		came = append(came, rows...)
	}
	for i, row := range came {
		if string(row) != name(i+1) {
			t.Errorf("row %d is %q", i+1, row)
		}
	}
	send(t, l, name(3), api.OK, withRow(7, 3, 5, name(3)))
}

// P16.5: what is answered

// What went out may be changed: the row goes out once more as it was.
func TestWhatWentOutIsNotKept(t *testing.T) {
	l := link.New(7)
	for i := 1; i <= 18; i++ {
		out, _ := l.Send([]byte(name(i)))
		scribbleAll(out)
	}
	for range 3 {
		ticks(t, l, 4)
		out := l.Tick()
		if !slices.Equal(texts(out), named(7, 1, 16, 0)) {
			t.Fatalf("Tick: got %v", list(texts(out)))
		}
		scribbleAll(out)
	}
	rows, out := l.Hear([]byte(withRow(7, 1, 1, "theirs")))
	scribbleAll(rows)
	scribbleAll(out)
	rows, out = l.Hear([]byte(withRow(7, 1, 1, "theirs"))) // in vain: the ack alone
	scribbleAll(rows)
	scribbleAll(out)
	ticks(t, l, 4)
	tick(t, l, named(7, 2, 17, 1)...)
	hear(t, l, ackOnly(7, 17), nil, named(7, 18, 18, 1)...)
	hear(t, l, withRow(7, 1, 1, "theirs"), nil, ackOnly(7, 1))
}

// No two of one answer share memory, nor spare room.
func TestTheListsOfAnAnswerShareNothing(t *testing.T) {
	l := sentRows(t, 7, 40)
	apart := func(out [][]byte, want []string) {
		t.Helper()
		if !slices.Equal(texts(out), want) {
			t.Fatalf("got %v, want %v", list(texts(out)), list(want))
		}
		for i, b := range out {
			scribble(b)
			_ = append(b, "more than there was"...)
			if !slices.Equal(texts(out[i+1:]), want[i+1:]) {
				t.Fatalf("packet %d shares memory with another one", i)
			}
		}
	}
	ticks(t, l, 4)
	apart(l.Tick(), named(7, 1, 16, 0))
	rows, out := l.Hear([]byte(withRow(7, 1, 10, "theirs")))
	scribbleAll(rows)
	apart(out, named(7, 17, 26, 1))
	ticks(t, l, 4)
	apart(l.Tick(), named(7, 11, 26, 1))
	rows, out = l.Hear([]byte(withRow(7, 2, 13, "theirs")))
	apart(out, named(7, 27, 29, 2))
	scribbleAll(out)
	if !slices.Equal(texts(rows), []string{"theirs"}) {
		t.Fatalf("what came shares memory with what went out: %q", rows)
	}
}

// W7: an answer stays what it is, whatever is called later: its lists, and the list that they stand in.
func TestAnswersStay(t *testing.T) {
	d := drawn(171)
	x := newPair(4)
	var answers [][][]byte
	var want [][]string
	for range 2000 {
		c := d.call(&x.p)
		var rows, out [][]byte
		var wantRows, wantOut []string
		switch c.name {
		case "send":
			out, _ = x.l.Send([]byte(c.data))
			wantOut, _ = x.p.send(c.data)
		case "hear":
			rows, out = x.l.Hear([]byte(c.data))
			wantRows, wantOut = x.p.hear(c.data)
		case "tick":
			out, wantOut = x.l.Tick(), x.p.tick()
		}
		answers = append(answers, rows, out)
		want = append(want, wantRows, wantOut)
	}
	lists := 0
	for i, l := range answers {
		if !slices.Equal(texts(l), want[i]) {
			t.Fatalf("answer %d: got %v, want %v", i, list(texts(l)), list(want[i]))
		}
		lists += len(l)
	}
	if lists < 1000 {
		t.Fatalf("%d lists only", lists)
	}
	for i := range answers { // and they share nothing with each other
		scribbleAll(answers[i])
		for j := i + 1; j < min(i+40, len(answers)); j++ {
			if !slices.Equal(texts(answers[j]), want[j]) {
				t.Fatalf("answers %d and %d share memory", i, j)
			}
		}
	}
	x.behind(t)
}

// One may send what came, and hear it again, and change all of it meanwhile.
func TestWhatCameIsSent(t *testing.T) {
	a, b := link.New(1), link.New(1)
	ball := []byte("ball")
	for range 50 {
		out, _ := a.Send(ball)
		scribble(ball)
		rows, _ := b.Hear(out[0])
		scribbleAll(out)
		if len(rows) != 1 || string(rows[0]) != "ball" {
			t.Fatalf("got %q", rows)
		}
		ball = rows[0]
		a, b = b, a
	}
}

// P16.5: of a nil Link

func TestNilLink(t *testing.T) {
	var l *link.Link
	for range 6 {
		send(t, l, "", api.ErrArg)
		send(t, l, "a", api.ErrArg)
		send(t, l, strings.Repeat("x", 5000), api.ErrArg) // ahead of ErrLong
		for _, b := range []string{"", "no packet", ackOnly(0, 0), ackOnly(0, 1), withRow(0, 1, 0, "x"), withRow(0, 2, 0, "x")} {
			hear(t, l, b, nil)
		}
		tick(t, l)
		counts(t, l, 0, 0, 0)
	}
	roomy := []byte("row|spare")
	if out, e := l.Send(roomy[:3]); e != api.ErrArg || out != nil || string(roomy) != "row|spare" {
		t.Errorf("Send: got %x, %v", out, e)
	}
}

// One that New did not make is one of the id 0.
func TestLinkWithoutNew(t *testing.T) {
	l := &link.Link{}
	counts(t, l, 0, 0, 0)
	ticks(t, l, 6)
	send(t, l, "x", api.OK, withRow(0, 1, 0, "x"))
	hear(t, l, withRow(0, 1, 1, "y"), []string{"y"}, ackOnly(0, 1))
	counts(t, l, 0, 2, 0)
}
