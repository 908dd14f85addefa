package frame_test

import (
	"bytes"
	"encoding/binary"
	"hash/crc32"
	"math"
	"slices"
	"testing"

	"gauntlet/api"
	"gauntlet/frame"
)

const (
	headBytes = 8  // a length and its Sum
	bareBytes = 12 // of a record that holds nothing
)

// withSum is b with its Sum behind it, by the library's own reckoning.
func withSum(b []byte) []byte {
	sum := crc32.Checksum(b, crc32.MakeTable(crc32.Castagnoli))
	return binary.LittleEndian.AppendUint32(bytes.Clone(b), sum)
}

// head is the first eight bytes of a record that tells n, with a Sum that is right.
func head(n uint32) []byte {
	return withSum(binary.LittleEndian.AppendUint32(nil, n))
}

// record is a record by its words alone.
func record(p []byte) []byte {
	return withSum(append(head(uint32(len(p))), p...))
}

// row is n bytes that are not alike.
func row(n int) []byte {
	p := make([]byte, n)
	for i := range p {
		p[i] = byte(i*7 + i>>8 + n)
	}
	return p
}

// lengths are how many bytes a record may hold: few, the edges of the bytes of a length, the greatest.
func lengths() []int {
	return []int{0, 1, 2, 3, 4, 5, 7, 8, 9, 11, 12, 13, 63, 64, 255, 256, 257, 1000, api.MaxFrame - 1, api.MaxFrame}
}

// joined is lists one behind the other.
func joined(lists ...[]byte) []byte {
	return bytes.Join(lists, nil)
}

// turned is b with its byte i xor x.
func turned(b []byte, i int, x byte) []byte {
	b = bytes.Clone(b)
	b[i] ^= x
	return b
}

// spoil writes over an answer and the spare room behind it.
func spoil(p []byte) {
	p = p[:cap(p)]
	for i := range p {
		p[i] ^= 0xa5
	}
}

// roomy is b with spare room behind its end, and all of it.
func roomy(b []byte) (p, all []byte) {
	all = append(bytes.Clone(b), row(50)...)
	return all[:len(b)], all
}

func encoded(t *testing.T, p []byte) []byte {
	t.Helper()
	b, e := frame.Encode(p)
	if e != api.OK {
		t.Fatalf("Encode of %d bytes: %v", len(p), e)
	}
	return b
}

func decodes(t *testing.T, what string, b, want []byte) {
	t.Helper()
	p, n, e := frame.Decode(b)
	if !bytes.Equal(p, want) || n != len(want)+bareBytes || e != api.OK {
		t.Errorf("%s: got %d bytes of a record of %d, %v; want %d of %d", what, len(p), n, e, len(want), len(want)+bareBytes)
	}
}

// refuses tells that Decode errs as it should, and answers nothing else.
func refuses(t *testing.T, what string, b []byte, want api.Errno) {
	t.Helper()
	p, n, e := frame.Decode(b)
	if len(p) != 0 || n != 0 || e != want {
		t.Errorf("%s: got % x, %d, %v; want %v", what, p, n, e, want)
	}
}

func scans(t *testing.T, what string, b []byte, want ...[]byte) {
	t.Helper()
	held, n := frame.Scan(b)
	size := 0
	for _, p := range want {
		size += len(p) + bareBytes
	}
	if !slices.EqualFunc(held, want, bytes.Equal) || n != size {
		t.Errorf("%s: got %d records of %d bytes, want %d of %d", what, len(held), n, len(want), size)
	}
}

// P4.1

func TestEncode(t *testing.T) {
	for _, n := range lengths() {
		p := row(n)
		if b := encoded(t, p); !bytes.Equal(b, record(p)) {
			t.Errorf("%d bytes: got a record of %d that is not right", n, len(b))
		}
	}
}

func TestEncodeByteByByte(t *testing.T) {
	for _, x := range []struct {
		p, want []byte
	}{
		{nil, []byte{0, 0, 0, 0, 0xc7, 0x4b, 0x67, 0x48, 0xc7, 0x4b, 0x67, 0x48}},
		{[]byte{}, []byte{0, 0, 0, 0, 0xc7, 0x4b, 0x67, 0x48, 0xc7, 0x4b, 0x67, 0x48}},
		{[]byte("abc"), []byte{3, 0, 0, 0, 0xfe, 0xc2, 0x45, 0x2a, 'a', 'b', 'c', 0xa0, 0xf6, 0x11, 0xed}},
	} {
		if b := encoded(t, x.p); !bytes.Equal(b, x.want) {
			t.Errorf("% x: got % x, want % x", x.p, b, x.want)
		}
	}
}

func TestEncodeOfTooMuch(t *testing.T) {
	for _, n := range []int{api.MaxFrame + 1, api.MaxFrame + 2, 2 * api.MaxFrame, 1 << 20} {
		if b, e := frame.Encode(make([]byte, n)); len(b) != 0 || e != api.ErrLong {
			t.Errorf("%d bytes: got %d, %v", n, len(b), e)
		}
	}
}

func TestEncodeTakesNoSpareRoom(t *testing.T) {
	p := make([]byte, 3, api.MaxFrame+1)
	if b := encoded(t, p); !bytes.Equal(b, record(p)) {
		t.Errorf("got % x", b)
	}
}

func TestDecode(t *testing.T) {
	for _, n := range lengths() {
		p := row(n)
		b := record(p)
		decodes(t, "a record", b, p)
		decodes(t, "a byte behind it", joined(b, []byte{0}), p)
		decodes(t, "some bytes behind it", joined(b, row(30)), p)
		decodes(t, "a record behind it", joined(b, record(row(9))), p)
	}
}

func TestFewerThanEight(t *testing.T) {
	refuses(t, "nil", nil, api.ErrShort)
	refuses(t, "nothing", []byte{}, api.ErrShort)
	for n := range headBytes {
		refuses(t, "noughts", make([]byte, n), api.ErrShort)
		refuses(t, "ones", bytes.Repeat([]byte{0xff}, n), api.ErrShort)
		refuses(t, "of a record", record(row(5))[:n], api.ErrShort)
		refuses(t, "of a length that is too long", head(api.MaxFrame + 1)[:n], api.ErrShort)
		refuses(t, "turned, of a record", turned(record(row(5)), 0, 1)[:n], api.ErrShort)
	}
}

func TestFirstSum(t *testing.T) {
	refuses(t, "eight noughts", make([]byte, headBytes), api.ErrSum)
	refuses(t, "many noughts", make([]byte, 100), api.ErrSum)
	for i := range headBytes {
		for x := 1; x < 256; x++ {
			refuses(t, "of a whole record", turned(record(row(5)), i, byte(x)), api.ErrSum)
			refuses(t, "and it is too long", turned(head(api.MaxFrame+1), i, byte(x)), api.ErrSum)
			refuses(t, "and it is not all there", turned(head(5), i, byte(x)), api.ErrSum)
		}
	}
	wrong := turned(head(5), 4, 1)
	refuses(t, "but the last is right", withSum(joined(wrong, row(5))), api.ErrSum)
}

func TestTooLong(t *testing.T) {
	for _, n := range []uint32{api.MaxFrame + 1, api.MaxFrame + 2, 1 << 24, math.MaxInt32, math.MaxInt32 + 1, math.MaxUint32 - 12, math.MaxUint32 - 3, math.MaxUint32} {
		refuses(t, "nothing behind it", head(n), api.ErrLong)
		refuses(t, "some bytes behind it", joined(head(n), row(40)), api.ErrLong)
	}
	all := record(row(api.MaxFrame + 1))
	refuses(t, "all of it is there", all, api.ErrLong)
	refuses(t, "a byte of it is not there", all[:len(all)-1], api.ErrLong)
	refuses(t, "the last Sum is not right", turned(all, len(all)-1, 1), api.ErrLong)
}

func TestNotAllThere(t *testing.T) {
	for _, n := range []int{0, 1, 2, 5, 100} {
		b := record(row(n))
		for i := headBytes; i < len(b); i++ {
			refuses(t, "its beginning", b[:i], api.ErrShort)
		}
		for i := headBytes; i < len(b)-1; i++ {
			refuses(t, "and the last Sum cannot be right", turned(b[:len(b)-1], i, 1), api.ErrShort)
		}
	}
	b := record(row(api.MaxFrame))
	refuses(t, "the greatest but a byte", b[:len(b)-1], api.ErrShort)
	refuses(t, "the greatest, its head", b[:headBytes], api.ErrShort)
}

func TestLastSum(t *testing.T) {
	for _, n := range []int{0, 1, 2, 5, 100} {
		b := record(row(n))
		for i := headBytes; i < len(b); i++ {
			for x := 1; x < 256; x++ {
				refuses(t, "a byte is turned", turned(b, i, byte(x)), api.ErrSum)
			}
			refuses(t, "with bytes behind it", joined(turned(b, i, 0x80), row(20)), api.ErrSum)
		}
	}
	p := row(5)
	other := joined(head(5), withSum(p))
	refuses(t, "it is the Sum of what is held alone", other, api.ErrSum)
	b := record(row(api.MaxFrame))
	refuses(t, "of the greatest", turned(b, len(b)-1, 1), api.ErrSum)
}

// P4.2

func TestScan(t *testing.T) {
	one, two, none := row(3), row(40), []byte(nil)
	scans(t, "nil", nil)
	scans(t, "nothing", []byte{})
	scans(t, "one", record(one), one)
	scans(t, "one that holds nothing", record(none), none)
	scans(t, "some", joined(record(one), record(two), record(none), record(one)), one, two, none, one)
	scans(t, "the last holds nothing", joined(record(one), record(none)), one, none)
	scans(t, "the greatest", joined(record(row(api.MaxFrame)), record(one)), row(api.MaxFrame), one)
}

func TestScanToTheFirstThatErrs(t *testing.T) {
	one, two, three := row(3), row(14), row(6)
	a, b, c := record(one), record(two), record(three)
	for i := range b {
		scans(t, "turned, the second", joined(a, turned(b, i, 1), c), one)
		scans(t, "turned, the first", joined(turned(b, i, 1), a, c))
		scans(t, "turned, the last", joined(a, c, turned(b, i, 1)), one, three)
		scans(t, "torn, the last", joined(a, c, b[:i]), one, three)
	}
	for i := 1; i < len(b); i++ {
		scans(t, "torn, the second", joined(a, b[:i], c), one)
	}
	scans(t, "too long, the second", joined(a, head(api.MaxFrame+1), b), one)
	scans(t, "all of it there, but too long", joined(a, record(row(api.MaxFrame+1)), b), one)
}

func TestScanWithOthersBehind(t *testing.T) {
	one, two := row(3), row(14)
	good := joined(record(one), record(two))
	for n := 1; n < 30; n++ {
		scans(t, "noughts", joined(good, make([]byte, n)), one, two)
		scans(t, "ones", joined(good, bytes.Repeat([]byte{0xff}, n)), one, two)
		scans(t, "others alone", make([]byte, n))
	}
	scans(t, "a head alone", joined(good, head(4)), one, two)
}

func TestScanOfMany(t *testing.T) {
	const many = 50000
	var all []byte
	var want [][]byte
	for i := range many {
		p := row(i % 40)
		all = append(all, record(p)...)
		want = append(want, p)
	}
	scans(t, "many", all, want...)
	scans(t, "many, with one more byte", append(all, 1), want...)
}

// P4.3

func TestDecodeOfEncode(t *testing.T) {
	for _, n := range lengths() {
		p := row(n)
		b := encoded(t, p)
		decodes(t, "alone", b, p)
		decodes(t, "a record behind it", joined(b, b), p)
		decodes(t, "a torn record behind it", joined(b, b[:len(b)-1]), p)
		decodes(t, "other bytes behind it", joined(b, make([]byte, 100)), p)
	}
	for i := range 256 {
		p := bytes.Repeat([]byte{byte(i)}, i)
		decodes(t, "bytes that are alike", joined(encoded(t, p), []byte{byte(i)}), p)
	}
}

func TestScanOfEncoded(t *testing.T) {
	var all []byte
	var want [][]byte
	for _, n := range lengths() {
		want = append(want, row(n))
		all = append(all, encoded(t, row(n))...)
	}
	scans(t, "all", all, want...)
}

func TestOneByteThatIsAnother(t *testing.T) {
	for n := range 40 {
		b := encoded(t, row(n))
		for i := range b {
			for x := 1; x < 256; x++ {
				refuses(t, "turned", turned(b, i, byte(x)), api.ErrSum)
			}
		}
	}
	b := encoded(t, row(3000))
	for i := range b {
		refuses(t, "turned", turned(b, i, byte(1<<(i%8))), api.ErrSum)
	}
}

// A record within a record is what is held, and nothing else.
func TestRecordsWithinRecords(t *testing.T) {
	inner := joined(encoded(t, row(3)), encoded(t, nil))
	decodes(t, "two within one", encoded(t, inner), inner)
	scans(t, "two within one", encoded(t, inner), inner)
}

func TestWhatIsHandedInIsNotChanged(t *testing.T) {
	p, all := roomy(row(20))
	was := bytes.Clone(all)
	spoil(encoded(t, p))
	if !bytes.Equal(all, was) {
		t.Errorf("Encode: got % x", all)
	}
	good := joined(record(row(3)), record(nil), record(row(20)))
	for _, b := range [][]byte{good, good[:len(good)-1], turned(good, 0, 1), turned(good, 9, 1), head(api.MaxFrame + 1)} {
		p, all := roomy(b)
		was := bytes.Clone(all)
		held, _, _ := frame.Decode(p)
		spoil(held)
		lists, _ := frame.Scan(p)
		for _, list := range lists {
			spoil(list)
		}
		if !bytes.Equal(all, was) {
			t.Errorf("got % x, want % x", all, was)
		}
	}
}

func TestWhatIsHandedInIsNotKept(t *testing.T) {
	p := row(20)
	b := encoded(t, p)
	spoil(p)
	if !bytes.Equal(b, record(row(20))) {
		t.Errorf("Encode: got % x", b)
	}
	held, _, _ := frame.Decode(b)
	lists, _ := frame.Scan(b)
	spoil(b)
	if !bytes.Equal(held, row(20)) || !bytes.Equal(lists[0], row(20)) {
		t.Errorf("got % x, % x", held, lists[0])
	}
}

func TestWhatIsAnsweredIsNewMemory(t *testing.T) {
	one, two := encoded(t, row(20)), encoded(t, row(20))
	spoil(one)
	if !bytes.Equal(two, record(row(20))) {
		t.Errorf("Encode: got % x", two)
	}
	all := joined(record(row(3)), record(nil), record(row(20)), record(row(5)))
	want := [][]byte{row(3), nil, row(20), row(5)}
	for i := range want {
		held, _ := frame.Scan(all)
		again, _ := frame.Scan(all)
		spoil(held[i])
		for k, p := range want {
			if k != i && !bytes.Equal(held[k], p) || !bytes.Equal(again[k], p) {
				t.Errorf("list %d was changed by way of list %d", k, i)
			}
		}
	}
}

// FuzzDecode holds Decode against the words of P4.1, and Scan against Decode one by one.
func FuzzDecode(f *testing.F) {
	good := joined(record(row(3)), record(nil), record(row(20)))
	for i := range good {
		f.Add(good[i:])
		f.Add(good[:i])
		f.Add(turned(good, i, 1))
	}
	f.Add(head(api.MaxFrame + 1))
	f.Fuzz(func(t *testing.T, b []byte) {
		p, n, e := frame.Decode(b)
		if want, size, wrong := plain(b); !bytes.Equal(p, want) || n != size || e != wrong {
			t.Errorf("% x: got % x, %d, %v; want % x, %d, %v", b, p, n, e, want, size, wrong)
		}
		var want [][]byte
		for rest := b; ; {
			p, n, e := plain(rest)
			if e != api.OK {
				break
			}
			want = append(want, p)
			rest = rest[n:]
		}
		scans(t, "drawn", b, want...)
	})
}

// plain is Decode by what P4.1 says, word by word.
func plain(b []byte) ([]byte, int, api.Errno) {
	if len(b) < 8 {
		return nil, 0, api.ErrShort
	}
	if !bytes.Equal(withSum(b[:4]), b[:8]) {
		return nil, 0, api.ErrSum
	}
	n := binary.LittleEndian.Uint32(b)
	if n > api.MaxFrame {
		return nil, 0, api.ErrLong
	}
	end := 8 + int(n)
	if len(b) < end+4 {
		return nil, 0, api.ErrShort
	}
	if !bytes.Equal(withSum(b[:end]), b[:end+4]) {
		return nil, 0, api.ErrSum
	}
	return b[8:end], end + 4, api.OK
}
