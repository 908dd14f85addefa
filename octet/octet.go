// Package octet is numbers as bytes: see DOC.md, chapter 1.
package octet

import (
	"bytes"

	"gauntlet/api"
)

const (
	digits   = 7       // binary digits of a Num that one byte has
	more     = 0x80    // beside the digits of each byte of a Num but the last
	numBytes = 10      // the most that a Num of 64 binary digits needs
	topByte  = 0x01    // the most that is left of 64 binary digits for the last of numBytes
	maxBytes = 1 << 24 // the greatest length of Bytes that is taken
)

// Writer is bytes that are laid one behind the other.
type Writer struct {
	laid []byte
}

// Byte lays a byte.
func (w *Writer) Byte(v byte) {
	if w != nil {
		w.laid = append(w.laid, v)
	}
}

// Two lays a number in two bytes.
func (w *Writer) Two(v uint16) {
	layRow(w.Byte, []byte{byte(v), byte(v >> 8)})
}

// Four lays a number in four bytes.
func (w *Writer) Four(v uint32) {
	layRow(w.Byte, []byte{byte(v), byte(v >> 8), byte(v >> 16), byte(v >> 24)})
}

// Num lays a number of both signs.
func (w *Writer) Num(v int) {
	u := fold(v)
	for ; u >= more; u >>= digits {
		w.Byte(byte(u) | more)
	}
	w.Byte(byte(u))
}

// Bytes lays bytes with their length.
func (w *Writer) Bytes(p []byte) {
	if w == nil {
		return
	}
	w.Num(len(p))
	w.laid = append(w.laid, p...)
}

// Hash lays a digest.
func (w *Writer) Hash(h api.Hash) {
	layRow(w.Byte, h[:])
}

// Out is what was laid.
func (w *Writer) Out() []byte {
	if w == nil {
		return nil
	}
	return bytes.Clone(w.laid)
}

// layRow lays a list, field by field.
func layRow(lay func(byte), row []byte) {
	for _, v := range row {
		lay(v)
	}
}

// Reader is bytes that are taken one by one; the first error stays.
type Reader struct {
	rest []byte // nothing behind an error
	err  api.Errno
}

// NewReader takes from bytes.
func NewReader(p []byte) *Reader {
	return &Reader{rest: bytes.Clone(p)}
}

// Byte takes a byte.
func (r *Reader) Byte() byte {
	if !r.has(1) {
		return 0
	}
	v := r.rest[0]
	r.rest = r.rest[1:]
	return v
}

// Two takes two bytes.
func (r *Reader) Two() uint16 {
	var row [2]byte
	r.fill(row[:])
	return uint16(row[0]) | uint16(row[1])<<8
}

// Four takes four bytes.
func (r *Reader) Four() uint32 {
	var row [4]byte
	r.fill(row[:])
	return uint32(row[0]) | uint32(row[1])<<8 | uint32(row[2])<<16 | uint32(row[3])<<24
}

// Num takes a number of both signs.
func (r *Reader) Num() int {
	var u uint64
	for i := range numBytes {
		if !r.has(1) {
			return 0
		}
		b := r.Byte()
		u |= uint64(b&^more) << (digits * i)
		if b >= more {
			continue
		}
		if !mayEnd(i, b) {
			r.fail(api.ErrForm)
			return 0
		}
		return unfold(u)
	}
	r.fail(api.ErrForm)
	return 0
}

// Bytes takes bytes with their length.
func (r *Reader) Bytes() []byte {
	n := r.Num()
	if n < 0 || n > maxBytes {
		r.fail(api.ErrForm)
		return nil
	}
	if !r.has(n) {
		return nil
	}
	p := bytes.Clone(r.rest[:n])
	r.rest = r.rest[n:]
	return p
}

// Hash takes a digest.
func (r *Reader) Hash() api.Hash {
	var h api.Hash
	r.fill(h[:])
	return h
}

// Left is how many bytes are left.
func (r *Reader) Left() int {
	if r == nil {
		return 0
	}
	return len(r.rest)
}

// End is the first error; one, too, if something is left.
func (r *Reader) End() api.Errno {
	switch {
	case r == nil:
		return api.ErrShort
	case r.err == api.OK && len(r.rest) > 0:
		return api.ErrForm
	}
	return r.err
}

// has tells whether n bytes can be taken; if they end too early, that is an error from now on.
func (r *Reader) has(n int) bool {
	if r == nil || r.err != api.OK {
		return false
	}
	if n > len(r.rest) {
		r.fail(api.ErrShort)
		return false
	}
	return true
}

// fail ends the taking: nothing is left, so that nothing can be taken behind an error.
func (r *Reader) fail(e api.Errno) {
	r.rest = nil
	r.err = e
}

// fill takes a whole row or none of it: a piece of a number would be another number.
func (r *Reader) fill(row []byte) {
	if r.has(len(row)) {
		takeRow(r.Byte, row)
	}
}

// takeRow fills a list, field by field.
func takeRow(take func() byte, row []byte) {
	for i := range row {
		row[i] = take()
	}
}

// mayEnd tells whether a Num may have b as its last byte, behind i others: a number has but one form.
func mayEnd(i int, b byte) bool {
	if i == numBytes-1 && b > topByte {
		return false
	}
	return i == 0 || b != 0
}

// fold is 2v, or -2v - 1 below 0; ^v is -v - 1, which does not wrap at the least number either.
func fold(v int) uint64 {
	if v < 0 {
		return uint64(^v)<<1 | 1
	}
	return uint64(v) << 1
}

// unfold is the number of which u is the fold.
func unfold(u uint64) int {
	half := int(u >> 1)
	if u&1 == 1 {
		return ^half
	}
	return half
}

// sumSteps are the remainders of the sixteen halves of a byte: a table of all bytes would be long, one digit a step slow.
var sumSteps = [16]uint32{
	0x00000000, 0x105ec76f, 0x20bd8ede, 0x30e349b1,
	0x417b1dbc, 0x5125dad3, 0x61c69362, 0x7198540d,
	0x82f63b78, 0x92a8fc17, 0xa24bb5a6, 0xb21572c9,
	0xc38d26c4, 0xd3d3e1ab, 0xe330a81a, 0xf36e6f75,
}

// Sum is the check sum of bytes.
func Sum(p []byte) uint32 {
	sum := ^uint32(0)
	for _, b := range p {
		sum ^= uint32(b)
		sum = sum>>4 ^ sumSteps[sum&15]
		sum = sum>>4 ^ sumSteps[sum&15]
	}
	return ^sum
}
