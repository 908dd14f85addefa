package link

import (
	"gauntlet/api"
	"gauntlet/frame"
	"gauntlet/octet"
)

// packet is what goes from one end to the other.
type packet struct {
	id     int
	number int // of the row, 1 first; 0: there is none
	ack    int
	row    []byte
}

// nums are the parts ahead of the row, in their order.
func (p *packet) nums() []*int {
	return []*int{&p.id, &p.number, &p.ack}
}

// bytes is a packet as a record. It has room for the longest row, so that there is no error to tell.
func (p packet) bytes() []byte {
	var w octet.Writer
	for _, part := range p.nums() {
		w.Num(*part)
	}
	if p.number > 0 {
		w.Bytes(p.row)
	}
	b, _ := frame.Encode(w.Out())
	return b
}

// read is the packet of which b is the record; false: it is none.
func read(b []byte) (packet, bool) {
	held, size, e := frame.Decode(b)
	if e != api.OK || size != len(b) {
		return packet{}, false
	}
	p, e := parse(held)
	if e != api.OK || p.number < 0 || p.ack < 0 || len(p.row) > api.MaxLoad {
		return packet{}, false
	}
	return p, true
}

// parse takes the parts of a packet, whatever they tell.
func parse(held []byte) (packet, api.Errno) {
	var p packet
	r := octet.NewReader(held)
	for _, part := range p.nums() {
		*part = r.Num()
	}
	if p.number > 0 {
		p.row = r.Bytes()
	}
	return p, r.End()
}
