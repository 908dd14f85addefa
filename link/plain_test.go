package link_test

import (
	"encoding/binary"
	"fmt"
	"hash/crc32"
	"slices"
	"strconv"
	"strings"
	"testing"

	"gauntlet/api"
	"gauntlet/link"
)

// num is a Num, by the library.
func num(v int) string {
	return string(binary.AppendVarint(nil, int64(v)))
}

// record is a record of bytes, by the library.
func record(held string) string {
	table := crc32.MakeTable(crc32.Castagnoli)
	b := binary.LittleEndian.AppendUint32(nil, uint32(len(held)))
	b = binary.LittleEndian.AppendUint32(b, crc32.Checksum(b, table))
	b = append(b, held...)
	return string(binary.LittleEndian.AppendUint32(b, crc32.Checksum(b, table)))
}

// withRow is a packet with a row.
func withRow(id, number, ack int, row string) string {
	return record(num(id) + num(number) + num(ack) + num(len(row)) + row)
}

// ackOnly is a packet without a row.
func ackOnly(id, ack int) string {
	return record(num(id) + num(0) + num(ack))
}

// parts takes a packet apart by what it must be, were it one: written anew, it is the same again, or it is none.
func parts(b string) (id, number, ack int, row string, ok bool) {
	if len(b) < 12 {
		return 0, 0, 0, "", false
	}
	rest := []byte(b[8 : len(b)-4])
	var nums [3]int
	for i := range nums {
		v, n := binary.Varint(rest)
		if n <= 0 {
			return 0, 0, 0, "", false
		}
		nums[i] = int(v)
		rest = rest[n:]
	}
	id, number, ack = nums[0], nums[1], nums[2]
	if number == 0 {
		return id, number, ack, "", ackOnly(id, ack) == b && ack >= 0
	}
	if _, n := binary.Varint(rest); n > 0 {
		row = string(rest[n:])
	}
	return id, number, ack, row, withRow(id, number, ack, row) == b && number > 0 && ack >= 0 && len(row) <= 4096
}

// fate is what became of a row that was Sent.
type fate int

const (
	waits fate = iota
	under
	ownedTo
)

// plain is the words of P16.1 to P16.3 over all rows that were ever Sent, and over all that ever happened.
type plain struct {
	id    int
	rows  []string
	fates []fate
	came  int
	past  []byte // r: a packet with a row went out; t: a Tick with rows under way; e: a Tick without
	sent  int
	vain  int
}

// of is the places of the rows with a fate.
func (p *plain) of(x fate) []int {
	var l []int
	for i, f := range p.fates {
		if f == x {
			l = append(l, i)
		}
	}
	return l
}

// tell is the packet of the row at a place.
func (p *plain) tell(place int) string {
	p.sent++
	p.past = append(p.past, 'r')
	return withRow(p.id, place+1, p.came, p.rows[place])
}

// goOut is what waits and has a place under way.
func (p *plain) goOut() []string {
	var out []string
	for len(p.of(under)) < 16 && len(p.of(waits)) > 0 {
		place := p.of(waits)[0]
		p.fates[place] = under
		out = append(out, p.tell(place))
	}
	return out
}

func (p *plain) left() int {
	return len(p.of(under)) + len(p.of(waits))
}

func (p *plain) send(row string) ([]string, api.Errno) {
	if len(row) > 4096 {
		return nil, api.ErrLong
	}
	if p.left() == 1000 {
		return nil, api.ErrFull
	}
	p.rows = append(p.rows, row)
	p.fates = append(p.fates, waits)
	return p.goOut(), api.OK
}

func (p *plain) hear(b string) (rows, out []string) {
	id, number, ack, row, ok := parts(b)
	if !ok || id != p.id {
		p.vain++
		return nil, nil
	}
	for _, place := range p.of(under) {
		if place+1 <= ack {
			p.fates[place] = ownedTo
		}
	}
	if number > 0 {
		if number-1 == p.came {
			rows = append(rows, row)
			p.came = number
		} else {
			p.vain++
		}
	}
	out = p.goOut()
	if number > 0 && len(out) == 0 {
		p.sent++
		out = append(out, ackOnly(p.id, p.came))
	}
	return rows, out
}

func (p *plain) tick() []string {
	if len(p.of(under)) == 0 {
		p.past = append(p.past, 'e')
		return nil
	}
	p.past = append(p.past, 't')
	if !strings.HasSuffix(string(p.past), "ttttt") {
		return nil
	}
	var out []string
	for _, place := range p.of(under) {
		out = append(out, p.tell(place))
	}
	return out
}

// call is one of the three calls that change an end; data is a row or a packet.
type call struct{ name, data string }

func (c call) String() string {
	return fmt.Sprintf("%s(%.40q)", c.name, c.data)
}

// both does a call to a Link and by the words, and tells whether they answer the same.
func (p *plain) both(t *testing.T, l *link.Link, c call) []string {
	t.Helper()
	var out []string
	switch c.name {
	case "send":
		want, e := p.send(c.data)
		send(t, l, c.data, e, want...)
		out = want
	case "hear":
		rows, want := p.hear(c.data)
		hear(t, l, c.data, rows, want...)
		out = want
	case "tick":
		out = p.tick()
		tick(t, l, out...)
	default:
		t.Fatalf("no call: %v", c)
	}
	counts(t, l, p.left(), p.sent, p.vain)
	return out
}

// list is a list of texts in few letters.
func list(l []string) string {
	s := strconv.Itoa(len(l)) + " of them:"
	for _, x := range l[:min(len(l), 18)] {
		s += fmt.Sprintf(" %.40x", x)
	}
	return s
}

func texts(l [][]byte) []string {
	var s []string
	for _, b := range l {
		s = append(s, string(b))
	}
	return s
}

func send(t *testing.T, l *link.Link, row string, want api.Errno, out ...string) {
	t.Helper()
	got, e := l.Send([]byte(row))
	if e != want || !slices.Equal(texts(got), out) {
		t.Fatalf("Send(%.40q): got %v, %v, want %v, %v", row, list(texts(got)), e, list(out), want)
	}
}

func hear(t *testing.T, l *link.Link, b string, rows []string, out ...string) {
	t.Helper()
	came, got := l.Hear([]byte(b))
	if !slices.Equal(texts(came), rows) || !slices.Equal(texts(got), out) {
		t.Fatalf("Hear(%.60x): got %v; %v, want %v; %v", b, list(texts(came)), list(texts(got)), list(rows), list(out))
	}
}

func tick(t *testing.T, l *link.Link, out ...string) {
	t.Helper()
	if got := l.Tick(); !slices.Equal(texts(got), out) {
		t.Fatalf("Tick: got %v, want %v", list(texts(got)), list(out))
	}
}

func counts(t *testing.T, l *link.Link, left, sent, vain int) {
	t.Helper()
	if n := l.Left(); n != left {
		t.Fatalf("Left: got %d, want %d", n, left)
	}
	if s, v := l.Stats(); s != sent || v != vain {
		t.Fatalf("Stats: got %d, %d, want %d, %d", s, v, sent, vain)
	}
}

// ticks is so many Ticks at which nothing goes out.
func ticks(t *testing.T, l *link.Link, many int) {
	t.Helper()
	for range many {
		tick(t, l)
	}
}

// name is the row with a number.
func name(number int) string {
	return "row " + strconv.Itoa(number)
}

// named is packets with the rows of the numbers from one to another.
func named(id, from, to, ack int) []string {
	var l []string
	for i := from; i <= to; i++ {
		l = append(l, withRow(id, i, ack, name(i)))
	}
	return l
}

// sentRows is an end behind Send of so many rows, of which nothing has been heard.
func sentRows(t *testing.T, id, many int) *link.Link {
	t.Helper()
	l := link.New(id)
	for i := 1; i <= many; i++ {
		if i <= api.Window {
			send(t, l, name(i), api.OK, withRow(id, i, 0, name(i)))
		} else {
			send(t, l, name(i), api.OK)
		}
	}
	counts(t, l, many, min(many, api.Window), 0)
	return l
}

// drawn is a row of numbers that look drawn by chance, the same each time.
type drawn uint64

func (d *drawn) below(n int) int {
	*d = *d*6364136223846793005 + 1442695040888963407
	return int(uint64(*d)>>33) % n
}

// bytes is so many or fewer of them, of any kind.
func (d *drawn) bytes(most int) string {
	b := make([]byte, d.below(most+1))
	for i := range b {
		b[i] = byte(d.below(256))
	}
	return string(b)
}
