package net_test

import (
	"bytes"
	"runtime"
	"slices"
	"strings"
	"testing"

	"gauntlet/api"
	"gauntlet/net"
)

// scribble fills a list and its spare room.
func scribble(b []byte) {
	b = b[:cap(b)]
	for i := range b {
		b[i] = '#'
	}
}

// given is what Give answers.
func given(t *testing.T, n *net.Net, pick int, want string) []byte {
	t.Helper()
	m, ok := n.Give(pick)
	if !ok || string(m.Data) != want {
		t.Fatalf("Give(%d): got %q, %v, want %q", pick, m.Data, ok, want)
	}
	return m.Data
}

// texts is bytes of many kinds and lengths.
func texts() []string {
	l := []string{"", "\x00", "\xff", "a", "\x00\x00", "ab\x00", "\xc3\x28\xa0\xed\xa0\x80", "grüße", strings.Repeat("\x00", 33), strings.Repeat("long ", 1<<15)}
	all := make([]byte, 256)
	for i := range all {
		all[i] = byte(i)
		l = append(l, string(all[:i+1]), string(all[i:i+1]))
	}
	return l
}

// P15.2: byte by byte

func TestBytesByBytes(t *testing.T) {
	n := net.New()
	for i, text := range texts() {
		send(t, n, note{i, -i, text}, true)
	}
	for i, text := range texts() {
		give(t, n, 0, note{i, -i, text}, true)
	}
	none(t, n)
}

func TestBytesBehindTwiceAndLate(t *testing.T) {
	for _, text := range texts() {
		x := note{1, 2, text}
		n := row(t, x, note{3, 4, "other"})
		twice(t, n, 0, true)
		late(t, n, 0, true)
		twice(t, n, 0, true)
		left(t, n, note{3, 4, "other"}, x, x, note{3, 4, "other"})
	}
}

// Bytes of none come out as none, a nil list as an empty one.
func TestBytesOfNone(t *testing.T) {
	for _, none := range [][]byte{nil, {}, make([]byte, 0, 9), []byte("abc")[:0]} {
		n := net.New()
		for range 3 {
			if !n.Send(api.Msg{From: 1, To: 2, Data: none}) {
				t.Fatal("Send: false")
			}
		}
		twice(t, n, 0, true)
		late(t, n, 0, true)
		scribble(none)
		for range 4 {
			give(t, n, 1, note{1, 2, ""}, true)
		}
		size(t, n, 0)
	}
}

// P15.2: what is handed in

func TestWhatIsHandedInStays(t *testing.T) {
	roomy := []byte("message|spare room")
	n := net.New()
	m := api.Msg{From: 1, To: 2, Data: roomy[:7]}
	n.Send(m)
	twice(t, n, 0, true)
	late(t, n, 0, true)
	n.Send(m)
	n.Send(api.Msg{From: 3, To: 4, Data: []byte("another one, and longer")})
	drop(t, n, 3, 1)
	for range 3 {
		scribble(given(t, n, 0, "message"))
	}
	if string(roomy) != "message|spare room" || m.From != 1 || m.To != 2 || len(m.Data) != 7 {
		t.Errorf("what was handed in is another one: %q, %v", roomy, m)
	}
}

func TestWhatIsHandedInIsNotKept(t *testing.T) {
	roomy := []byte("message|spare room")
	n := net.New()
	for range 3 {
		n.Send(api.Msg{Data: roomy[:7]})
	}
	twice(t, n, 1, true)
	scribble(roomy)
	twice(t, n, 1, true)
	late(t, n, 2, true)
	for i := range 5 {
		given(t, n, 4-i, "message")
	}
}

// One list, written anew for each message.
func TestSendFromOneList(t *testing.T) {
	b := make([]byte, 3)
	n := net.New()
	for i := range 100 {
		b[0], b[1], b[2] = byte(i), 'x', byte(100-i)
		n.Send(api.Msg{From: i, Data: b[:1+i%3]})
	}
	for i := range 100 {
		give(t, n, 0, note{from: i, data: string([]byte{byte(i), 'x', byte(100 - i)}[:1+i%3])}, true)
	}
}

// P15.2: what is answered

func TestTwoAlikeShareNothing(t *testing.T) {
	for _, text := range []string{"a", "message", strings.Repeat("long", 1000)} {
		for _, pick := range []int{0, 1, 2, 3} {
			n := row(t, note{data: text})
			for range 3 {
				twice(t, n, 0, true)
			}
			first := given(t, n, pick, text)
			scribble(first) // changes neither what is under way nor what comes later
			second := given(t, n, 0, text)
			scribble(second)
			twice(t, n, 1, true)
			third := given(t, n, 0, text)
			fourth := given(t, n, 0, text)
			fifth := given(t, n, 0, text)
			scribble(fourth)
			if string(third) != text || string(fifth) != text {
				t.Fatalf("two alike share memory: %q, %q", third, fifth)
			}
			size(t, n, 0)
		}
	}
}

func TestAnswersShareNothingWithOthers(t *testing.T) {
	n := net.New()
	for _, text := range []string{"one", "two", "three", "four"} {
		send(t, n, note{data: text}, true)
	}
	second := given(t, n, 1, "two")
	scribble(second)
	_ = append(second[:0], "a text that is longer than it was"...)
	send(t, n, note{data: "five"}, true)
	first := given(t, n, 0, "one")
	scribble(first)
	for _, text := range []string{"three", "four", "five"} {
		scribble(given(t, n, 0, text))
	}
}

// What was given may be sent again, and be changed meanwhile.
func TestSendOfWhatWasGiven(t *testing.T) {
	n := row(t, note{1, 2, "ball"})
	for range 20 {
		m, ok := n.Give(0)
		if !ok || !n.Send(m) || !n.Send(m) {
			t.Fatal("Give or Send: false")
		}
		scribble(m.Data)
		give(t, n, 0, note{1, 2, "ball"}, true)
	}
	left(t, n, note{1, 2, "ball"})
}

// W7: an answer stays what it is, whatever is called later.
func TestAnswersStay(t *testing.T) {
	d := drawn(156)
	var p plain
	n := net.New()
	var answers []api.Msg
	var want []note
	for range 3000 {
		if c := d.call(len(p.row)); c.name != "give" {
			p.both(t, n, c)
			continue
		}
		m, ok := n.Give(0)
		x, wantOK := p.give(0)
		if ok != wantOK {
			t.Fatalf("Give(0): got %v, want %v", ok, wantOK)
		}
		answers, want = append(answers, m), append(want, x)
	}
	for i, m := range answers {
		if noteOf(m) != want[i] {
			t.Fatalf("answer %d: got %v, want %v", i, noteOf(m), want[i])
		}
	}
	for i, m := range answers { // and they share nothing with each other
		scribble(m.Data)
		for j := i + 1; j < len(answers); j++ {
			if noteOf(answers[j]) != want[j] {
				t.Fatalf("answers %d and %d share memory", i, j)
			}
		}
	}
	left(t, n, p.row...)
}

// A Send that is refused leaves what was handed in as it was, too.
func TestMemoryOfAFullRow(t *testing.T) {
	n := row(t, slices.Repeat([]note{{1, 2, "full"}}, api.MaxFlight)...)
	b := []byte("lost|spare")
	if n.Send(api.Msg{Data: b[:4]}) || !bytes.Equal(b, []byte("lost|spare")) {
		t.Fatalf("Send to a full row: true, or %q", b)
	}
	twice(t, n, 0, false)
	scribble(given(t, n, 0, "full"))
	twice(t, n, 0, true)
	left(t, n, slices.Repeat([]note{{1, 2, "full"}}, api.MaxFlight)...)
}

// A great message that is there many times takes the room of one, or W1 would not hold for a row of them.
func TestTwiceOfAGreatMessage(t *testing.T) {
	const mega = 1 << 20
	great := bytes.Repeat([]byte{1, 2, 3, 4}, mega/4)
	n := net.New()
	if !n.Send(api.Msg{From: 1, To: 2, Data: great}) {
		t.Fatal("Send: false")
	}
	var before, behind runtime.MemStats
	runtime.ReadMemStats(&before)
	for i := range api.MaxFlight - 1 {
		twice(t, n, i, true)
	}
	runtime.ReadMemStats(&behind)
	if room := behind.TotalAlloc - before.TotalAlloc; room > 50*mega {
		t.Errorf("Twice of %d bytes took %d", mega, room)
	}
	m, ok := n.Give(1000)
	if !ok || !bytes.Equal(m.Data, great) {
		t.Fatalf("Give: got %d bytes, %v", len(m.Data), ok)
	}
	drop(t, n, 2, api.MaxFlight-1)
}

// P15.2: of a nil Net

func TestNilNet(t *testing.T) {
	var n *net.Net
	for range 2 {
		send(t, n, note{}, false)
		send(t, n, note{1, 2, "a"}, false)
		b := []byte("nil|spare")
		if n.Send(api.Msg{Data: b[:3]}) || string(b) != "nil|spare" {
			t.Fatalf("Send: true, or %q", b)
		}
		none(t, n)
	}
}

// One that New did not make is one without a message.
func TestNetWithoutNew(t *testing.T) {
	n := &net.Net{}
	none(t, n)
	send(t, n, note{1, 2, "a"}, true)
	twice(t, n, 0, true)
	left(t, n, note{1, 2, "a"}, note{1, 2, "a"})
}
