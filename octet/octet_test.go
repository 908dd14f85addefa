package octet_test

import (
	"bytes"
	"hash/crc32"
	"math"
	"math/bits"
	"testing"

	"gauntlet/api"
	"gauntlet/octet"
)

// laidBy is what a new Writer holds behind what was done with it.
func laidBy(do func(w *octet.Writer)) []byte {
	var w octet.Writer
	do(&w)
	return w.Out()
}

func numBytes(v int) []byte {
	return laidBy(func(w *octet.Writer) { w.Num(v) })
}

// someHash has no byte twice and none that is 0.
func someHash() api.Hash {
	var h api.Hash
	for i := range h {
		h[i] = byte(200 - i)
	}
	return h
}

// spoil writes over an answer and the spare room behind it.
func spoil(p []byte) {
	p = p[:cap(p)]
	for i := range p {
		p[i] ^= 0xa5
	}
}

// edgeNums are the numbers beside those where a Num needs a byte more, and the ends.
func edgeNums() []int {
	nums := []int{0, 150, -150, math.MaxInt, math.MaxInt - 1, math.MinInt, math.MinInt + 1}
	for k := range 63 {
		for d := -2; d <= 2; d++ {
			nums = append(nums, 1<<k+d, -1<<k+d)
		}
	}
	return nums
}

// P1.1

func TestEachFieldAsBytes(t *testing.T) {
	h := someHash()
	for _, x := range []struct {
		name string
		do   func(w *octet.Writer)
		want []byte
	}{
		{"nothing", func(w *octet.Writer) {}, nil},
		{"Byte 0", func(w *octet.Writer) { w.Byte(0) }, []byte{0}},
		{"Byte 255", func(w *octet.Writer) { w.Byte(255) }, []byte{255}},
		{"Two 0", func(w *octet.Writer) { w.Two(0) }, []byte{0, 0}},
		{"Two", func(w *octet.Writer) { w.Two(0x1234) }, []byte{0x34, 0x12}},
		{"Two, the greatest", func(w *octet.Writer) { w.Two(math.MaxUint16) }, []byte{255, 255}},
		{"Four 0", func(w *octet.Writer) { w.Four(0) }, []byte{0, 0, 0, 0}},
		{"Four", func(w *octet.Writer) { w.Four(0x12345678) }, []byte{0x78, 0x56, 0x34, 0x12}},
		{"Four, the greatest", func(w *octet.Writer) { w.Four(math.MaxUint32) }, []byte{255, 255, 255, 255}},
		{"Bytes of none", func(w *octet.Writer) { w.Bytes(nil) }, []byte{0}},
		{"Bytes of an empty list", func(w *octet.Writer) { w.Bytes([]byte{}) }, []byte{0}},
		{"Bytes", func(w *octet.Writer) { w.Bytes([]byte("abc")) }, []byte{6, 'a', 'b', 'c'}},
		{"Hash", func(w *octet.Writer) { w.Hash(h) }, h[:]},
	} {
		if got := laidBy(x.do); !bytes.Equal(got, x.want) {
			t.Errorf("%s: % x, want % x", x.name, got, x.want)
		}
	}
}

func TestLengthOfBytesIsANum(t *testing.T) {
	for _, n := range []int{63, 64, 8191, 8192} {
		p := bytes.Repeat([]byte{7}, n)
		want := append(numBytes(n), p...)
		if got := laidBy(func(w *octet.Writer) { w.Bytes(p) }); !bytes.Equal(got, want) {
			t.Errorf("%d bytes are laid as %d", n, len(got))
		}
	}
}

func TestOneBehindTheOther(t *testing.T) {
	h := someHash()
	got := laidBy(func(w *octet.Writer) {
		w.Num(-1)
		w.Two(258)
		w.Bytes([]byte{0x61})
		w.Byte(9)
		w.Hash(h)
		w.Four(0x01020304)
		w.Num(64)
	})
	want := append([]byte{1, 2, 1, 2, 0x61, 9}, h[:]...)
	want = append(want, 4, 3, 2, 1, 0x80, 1)
	if !bytes.Equal(got, want) {
		t.Errorf("% x, want % x", got, want)
	}
}

func TestNumAsBytes(t *testing.T) {
	for _, x := range []struct {
		v    int
		want []byte
	}{
		{0, []byte{0}},
		{-1, []byte{1}},
		{1, []byte{2}},
		{-2, []byte{3}},
		{63, []byte{0x7e}},
		{-64, []byte{0x7f}},
		{64, []byte{0x80, 0x01}},
		{-65, []byte{0x81, 0x01}},
		{150, []byte{0xac, 0x02}},
		{8191, []byte{0xfe, 0x7f}},
		{-8192, []byte{0xff, 0x7f}},
		{8192, []byte{0x80, 0x80, 0x01}},
		{-8193, []byte{0x81, 0x80, 0x01}},
		{1<<62 - 1, []byte{0xfe, 0xff, 0xff, 0xff, 0xff, 0xff, 0xff, 0xff, 0x7f}},
		{1 << 62, []byte{0x80, 0x80, 0x80, 0x80, 0x80, 0x80, 0x80, 0x80, 0x80, 0x01}},
		{-1 << 62, []byte{0xff, 0xff, 0xff, 0xff, 0xff, 0xff, 0xff, 0xff, 0x7f}},
		{-1<<62 - 1, []byte{0x81, 0x80, 0x80, 0x80, 0x80, 0x80, 0x80, 0x80, 0x80, 0x01}},
		{math.MaxInt, []byte{0xfe, 0xff, 0xff, 0xff, 0xff, 0xff, 0xff, 0xff, 0xff, 0x01}},
		{math.MinInt, []byte{0xff, 0xff, 0xff, 0xff, 0xff, 0xff, 0xff, 0xff, 0xff, 0x01}},
	} {
		if got := numBytes(x.v); !bytes.Equal(got, x.want) {
			t.Errorf("%d: % x, want % x", x.v, got, x.want)
		}
	}
}

func TestNumHasNoByteMoreThanNeeded(t *testing.T) {
	for _, v := range edgeNums() {
		folded := uint64(v) << 1
		if v < 0 {
			folded = -folded - 1
		}
		want := max(1, (bits.Len64(folded)+6)/7)
		got := numBytes(v)
		if len(got) != want {
			t.Errorf("%d: % x, want %d bytes", v, got, want)
		}
		for i, b := range got {
			if (b >= 0x80) != (i < len(got)-1) {
				t.Errorf("%d: % x: byte %d", v, got, i)
			}
		}
	}
}

func TestOutIsNewMemoryEachTime(t *testing.T) {
	var w octet.Writer
	w.Bytes([]byte("abc"))
	first, second := w.Out(), w.Out()
	spoil(first)
	if want := []byte("\x06abc"); !bytes.Equal(second, want) || !bytes.Equal(w.Out(), want) {
		t.Errorf("% x and % x", second, w.Out())
	}
	w.Byte(1)
	w.Byte(2)
	spoil(first)
	if want := []byte("\x06abc\x01\x02"); !bytes.Equal(w.Out(), want) {
		t.Errorf("% x", w.Out())
	}
	if want := []byte("\x06abc"); !bytes.Equal(second, want) {
		t.Errorf("what was answered became % x", second)
	}
}

func TestSpareRoomOfOutIsNotLaidUpon(t *testing.T) {
	var w octet.Writer
	for i := range 100 {
		w.Byte(byte(i))
		spare := w.Out()
		spoil(spare)
		kept := bytes.Clone(spare[:cap(spare)])
		w.Byte(byte(i))
		if !bytes.Equal(spare[:cap(spare)], kept) {
			t.Fatal("laid into an answer behind", i)
		}
	}
	for i, b := range w.Out() {
		if b != byte(i/2) {
			t.Fatal(i, b)
		}
	}
}

// P1.2

// take is one of a Reader's ways to take, as a number or a text that can be held against another.
type take struct {
	name  string
	size  int // of bytes; 0: it depends
	by    func(r *octet.Reader) any
	empty any
}

func takes() []take {
	return []take{
		{"Byte", 1, func(r *octet.Reader) any { return r.Byte() }, byte(0)},
		{"Two", 2, func(r *octet.Reader) any { return r.Two() }, uint16(0)},
		{"Four", 4, func(r *octet.Reader) any { return r.Four() }, uint32(0)},
		{"Num", 0, func(r *octet.Reader) any { return r.Num() }, 0},
		{"Bytes", 0, func(r *octet.Reader) any { return string(r.Bytes()) }, ""},
		{"Hash", 32, func(r *octet.Reader) any { return r.Hash() }, api.Hash{}},
	}
}

// expectOver holds that a Reader has this error, and nothing else any more.
func expectOver(t *testing.T, name string, r *octet.Reader, e api.Errno) {
	t.Helper()
	for _, x := range takes() {
		if got := r.End(); got != e {
			t.Errorf("%s: End is %d, want %d", name, got, e)
		}
		if r.Left() != 0 {
			t.Errorf("%s: %d left", name, r.Left())
		}
		if v := x.by(r); v != x.empty {
			t.Errorf("%s: %s takes %#v behind the error", name, x.name, v)
		}
	}
	if r.End() != e {
		t.Errorf("%s: the first error did not stay: %d", name, r.End())
	}
}

func TestWhatIsLaidIsTaken(t *testing.T) {
	h := someHash()
	r := octet.NewReader(laidBy(func(w *octet.Writer) {
		w.Byte(0x81)
		w.Two(0x8182)
		w.Four(0x81828384)
		w.Num(-300)
		w.Bytes([]byte("ab"))
		w.Hash(h)
		w.Bytes(nil)
		w.Byte(3)
	}))
	for _, x := range []struct {
		got, want any
	}{
		{r.Left(), 1 + 2 + 4 + 2 + 3 + 32 + 1 + 1},
		{r.Byte(), byte(0x81)},
		{r.Left(), 2 + 4 + 2 + 3 + 32 + 1 + 1},
		{r.Two(), uint16(0x8182)},
		{r.Left(), 4 + 2 + 3 + 32 + 1 + 1},
		{r.Four(), uint32(0x81828384)},
		{r.Left(), 2 + 3 + 32 + 1 + 1},
		{r.Num(), -300},
		{r.Left(), 3 + 32 + 1 + 1},
		{string(r.Bytes()), "ab"},
		{r.Left(), 32 + 1 + 1},
		{r.Hash(), h},
		{r.Left(), 2},
		{len(r.Bytes()), 0},
		{r.Left(), 1},
		{r.Byte(), byte(3)},
		{r.Left(), 0},
		{r.End(), api.OK},
	} {
		if x.got != x.want {
			t.Errorf("%v, want %v", x.got, x.want)
		}
	}
}

func TestEndTooEarly(t *testing.T) {
	for _, x := range takes() {
		for n := range max(1, x.size) {
			r := octet.NewReader(bytes.Repeat([]byte{0xff}, n))
			if v := x.by(r); v != x.empty {
				t.Errorf("%s takes %#v of %d bytes", x.name, v, n)
			}
			expectOver(t, x.name, r, api.ErrShort)
		}
	}
	for n := range 10 {
		r := octet.NewReader(bytes.Repeat([]byte{0xff}, n))
		if v := r.Num(); v != 0 {
			t.Error(n, v)
		}
		expectOver(t, "a Num cut off", r, api.ErrShort)
	}
	for n := range 10 {
		r := octet.NewReader(bytes.Repeat([]byte{0xff}, n))
		if b := r.Bytes(); len(b) != 0 {
			t.Error(n, b)
		}
		expectOver(t, "a length cut off", r, api.ErrShort)
	}
}

func TestJustEnough(t *testing.T) {
	for _, x := range takes() {
		if x.size == 0 {
			continue
		}
		r := octet.NewReader(bytes.Repeat([]byte{1}, x.size))
		if v := x.by(r); v == x.empty || r.Left() != 0 || r.End() != api.OK {
			t.Error(x.name, v, r.Left(), r.End())
		}
	}
}

func TestNumsThatAreRefused(t *testing.T) {
	nine := func(b byte, last ...byte) []byte { return append(bytes.Repeat([]byte{b}, 9), last...) }
	for _, x := range []struct {
		name string
		b    []byte
	}{
		{"ten above 7f, nothing behind", nine(0x80, 0x80)},
		{"ten above 7f, a last one behind", nine(0x80, 0x80, 0x01)},
		{"ten above 7f, of ones", nine(0xff, 0x81)},
		{"ten above 7f, much behind", bytes.Repeat([]byte{0xff}, 30)},
		{"the tenth is 02", nine(0xff, 0x02)},
		{"the tenth is 03", nine(0x80, 0x03)},
		{"the tenth is 40", nine(0x80, 0x40)},
		{"the tenth is 7f", nine(0xff, 0x7f)},
		{"the tenth is 00", nine(0xff, 0x00)},
		{"the last of two is 00", []byte{0x80, 0x00}},
		{"the last of two is 00, digits ahead", []byte{0xff, 0x00}},
		{"the last of two is 00, more behind", []byte{0xff, 0x00, 5, 5}},
		{"the last of three is 00", []byte{0x81, 0x80, 0x00}},
		{"the last of nine is 00", append(bytes.Repeat([]byte{0x81}, 8), 0)},
	} {
		r := octet.NewReader(x.b)
		if v := r.Num(); v != 0 {
			t.Errorf("%s: %d", x.name, v)
		}
		expectOver(t, x.name, r, api.ErrForm)
		r = octet.NewReader(x.b)
		if b := r.Bytes(); len(b) != 0 {
			t.Errorf("%s as a length: % x", x.name, b)
		}
		expectOver(t, x.name, r, api.ErrForm)
	}
}

func TestNumsAtTheEdgeOfWhatIsRefused(t *testing.T) {
	for _, x := range []struct {
		b    []byte
		want int
	}{
		{[]byte{0x00}, 0},
		{[]byte{0x7f}, -64},
		{[]byte{0x80, 0x01}, 64},
		{[]byte{0x80, 0x7f}, 127 << 6},
		{append(bytes.Repeat([]byte{0x80}, 8), 0x7f), 127 << 55},
		{append(bytes.Repeat([]byte{0x80}, 9), 0x01), 1 << 62},
		{append(bytes.Repeat([]byte{0xff}, 9), 0x01), math.MinInt},
	} {
		r := octet.NewReader(append(x.b, 0xee))
		if v := r.Num(); v != x.want || r.Left() != 1 || r.Byte() != 0xee || r.End() != api.OK {
			t.Errorf("% x: %d, want %d; %d", x.b, v, x.want, r.End())
		}
	}
}

func TestLengths(t *testing.T) {
	const most = 1 << 24
	for _, x := range []struct {
		name string
		n    int
		e    api.Errno
	}{
		{"-1", -1, api.ErrForm},
		{"-2", -2, api.ErrForm},
		{"the least", math.MinInt, api.ErrForm},
		{"above 2^24", most + 1, api.ErrForm},
		{"the greatest", math.MaxInt, api.ErrForm},
		{"2^32", 1 << 32, api.ErrForm},
		{"2^24, not there", most, api.ErrShort},
		{"one above what is left", 4, api.ErrShort},
	} {
		r := octet.NewReader(append(numBytes(x.n), 'a', 'b', 'c'))
		if b := r.Bytes(); len(b) != 0 {
			t.Errorf("%s: % x", x.name, b)
		}
		expectOver(t, x.name, r, x.e)
	}
	r := octet.NewReader(append(numBytes(3), 'a', 'b', 'c'))
	if b := r.Bytes(); string(b) != "abc" || r.End() != api.OK {
		t.Errorf("%q, %d", b, r.End())
	}
}

func TestTheGreatestLength(t *testing.T) {
	const most = 1 << 24
	p := make([]byte, most+1)
	p[0], p[most-1], p[most] = 1, 2, 3
	r := octet.NewReader(laidBy(func(w *octet.Writer) { w.Bytes(p[:most]) }))
	if b := r.Bytes(); !bytes.Equal(b, p[:most]) || r.End() != api.OK {
		t.Error(len(b), r.End())
	}
	r = octet.NewReader(laidBy(func(w *octet.Writer) { w.Bytes(p) }))
	if b := r.Bytes(); len(b) != 0 {
		t.Error(len(b))
	}
	expectOver(t, "all there, but above 2^24", r, api.ErrForm)
}

func TestTheFirstErrorStays(t *testing.T) {
	r := octet.NewReader([]byte{5, 0x80, 0x00, 1, 2, 3})
	if r.Byte() != 5 || r.Num() != 0 {
		t.Error("a Byte, and a Num that is none")
	}
	expectOver(t, "ErrForm first", r, api.ErrForm)
	r = octet.NewReader([]byte{5, 6, 7})
	if r.Byte() != 5 || r.Four() != 0 {
		t.Error("a Byte, and a Four of two bytes")
	}
	expectOver(t, "ErrShort first", r, api.ErrShort)
}

func TestEndWithSomethingLeft(t *testing.T) {
	r := octet.NewReader([]byte{1, 2})
	if r.End() != api.ErrForm || r.Left() != 2 {
		t.Error("two left:", r.End(), r.Left())
	}
	if r.Byte() != 1 || r.End() != api.ErrForm || r.Left() != 1 {
		t.Error("to ask End changes nothing:", r.End(), r.Left())
	}
	if r.Byte() != 2 || r.End() != api.OK || r.End() != api.OK {
		t.Error("nothing left:", r.End())
	}
	if r := octet.NewReader(nil); r.End() != api.OK || r.Left() != 0 {
		t.Error("nothing at all:", r.End())
	}
}

// P1.3

// plainSum is the Sum by its definition, a binary digit at a time.
func plainSum(p []byte) uint32 {
	sum := uint32(0xffffffff)
	for _, b := range p {
		for i := range 8 {
			odd := (sum ^ uint32(b>>i)) & 1
			sum >>= 1
			if odd == 1 {
				sum ^= 0x82f63b78
			}
		}
	}
	return sum ^ 0xffffffff
}

func TestSums(t *testing.T) {
	for _, x := range []struct {
		p    []byte
		want uint32
	}{
		{[]byte("123456789"), 0xe3069283},
		{nil, 0},
		{[]byte{}, 0},
		{make([]byte, 32), 0x8a9136aa},
		{bytes.Repeat([]byte{0xff}, 32), 0x62a8ab43},
	} {
		if got := octet.Sum(x.p); got != x.want {
			t.Errorf("% x: %08x, want %08x", x.p, got, x.want)
		}
	}
}

func TestSumsOfMany(t *testing.T) {
	table := crc32.MakeTable(crc32.Castagnoli)
	for i := range 256 {
		p := []byte{byte(i)}
		if got := octet.Sum(p); got != plainSum(p) {
			t.Errorf("%d: %08x, want %08x", i, got, plainSum(p))
		}
	}
	p := make([]byte, 1<<16)
	for i := range p {
		p[i] = byte(i * i >> 3)
	}
	for _, n := range []int{2, 3, 4, 5, 31, 32, 33, 255, 256, 257, 1 << 12, 1 << 16} {
		got := octet.Sum(p[:n])
		if got != plainSum(p[:n]) || got != crc32.Checksum(p[:n], table) {
			t.Errorf("%d bytes: %08x, want %08x", n, got, plainSum(p[:n]))
		}
	}
}

// P1.4

func TestNumsAreTakenAsTheyWereLaid(t *testing.T) {
	nums := edgeNums()
	for v := -10000; v <= 10000; v++ {
		nums = append(nums, v)
	}
	var w octet.Writer
	for _, v := range nums {
		w.Num(v)
	}
	r := octet.NewReader(w.Out())
	for _, v := range nums {
		if got := r.Num(); got != v {
			t.Fatalf("%d is taken as %d", v, got)
		}
	}
	if r.End() != api.OK {
		t.Error(r.End())
	}
}

// layAll lays a row of fields by a method value of a Writer.
func layAll[T any](lay func(T), row []T) {
	for _, v := range row {
		lay(v)
	}
}

// expectAll takes a row of fields by a method value of a Reader.
func expectAll[T comparable](t *testing.T, take func() T, row []T) {
	t.Helper()
	for i, v := range row {
		if got := take(); got != v {
			t.Errorf("field %d: %v, want %v", i, got, v)
		}
	}
}

func TestRowsAreTakenAsTheyWereLaid(t *testing.T) {
	var (
		ones   = []byte{0, 1, 0x7f, 0x80, 0xff}
		twos   = []uint16{0, 1, 0xff, 0x100, 0x7fff, 0x8000, 0xffff}
		fours  = []uint32{0, 1, 0xff, 0x100, 0xffff, 0x10000, 0xffffff, 0x1000000, 0x80000000, 0xffffffff}
		hashes = []api.Hash{{}, {1}, {31: 1}, someHash()}
		texts  = [][]byte{nil, {0}, []byte("abc"), make([]byte, 63), make([]byte, 64), make([]byte, 9000)}
		w      octet.Writer
	)
	layAll(w.Byte, ones)
	layAll(w.Bytes, texts)
	layAll(w.Two, twos)
	layAll(w.Hash, hashes)
	layAll(w.Four, fours)
	layAll(w.Num, edgeNums())
	r := octet.NewReader(w.Out())
	expectAll(t, r.Byte, ones)
	for i, p := range texts {
		if got := r.Bytes(); !bytes.Equal(got, p) {
			t.Errorf("text %d: %d bytes", i, len(got))
		}
	}
	expectAll(t, r.Two, twos)
	expectAll(t, r.Hash, hashes)
	expectAll(t, r.Four, fours)
	expectAll(t, r.Num, edgeNums())
	if r.End() != api.OK {
		t.Error(r.End())
	}
}

// Whatever is taken as a Num is laid as the same bytes: there are no two forms of one number.
func TestNumsHaveOneForm(t *testing.T) {
	for i := 0; i < 1<<24; i += 17 {
		b := []byte{byte(i), byte(i >> 8), byte(i >> 16)}
		r := octet.NewReader(b)
		v := r.Num()
		n := len(b) - r.Left()
		refused := n == len(b) && r.End() != api.OK
		if !refused && !bytes.Equal(numBytes(v), b[:n]) {
			t.Fatalf("% x is taken as %d", b[:n], v)
		}
	}
}

func TestOneByteThatDiffers(t *testing.T) {
	for _, n := range []int{1, 2, 3, 4, 5, 16, 64, 300} {
		p := make([]byte, n)
		for i := range p {
			p[i] = byte(i*7 + n)
		}
		sum := octet.Sum(p)
		for i := range p {
			was := p[i]
			for d := 1; d < 256; d++ {
				p[i] = was ^ byte(d)
				if octet.Sum(p) == sum {
					t.Fatalf("%d bytes: byte %d by %02x", n, i, d)
				}
			}
			p[i] = was
		}
	}
}

// room is a list of n bytes with spare room behind it, and all of it.
func room(n int) (p, all []byte) {
	all = make([]byte, n+40)
	for i := range all {
		all[i] = byte(i + 1)
	}
	return all[:n], all
}

func TestWhatIsHandedInIsNotChanged(t *testing.T) {
	p, all := room(9)
	was := bytes.Clone(all)
	var w octet.Writer
	w.Bytes(p)
	w.Byte(0xee)
	w.Bytes(p[:0])
	spoil(w.Out())
	octet.Sum(p)
	r := octet.NewReader(p)
	r.Byte()
	spoil(r.Bytes())
	r.Four()
	r.Num()
	r.End()
	if !bytes.Equal(all, was) {
		t.Errorf("% x", all)
	}
}

func TestWhatIsHandedInIsNotKept(t *testing.T) {
	var w octet.Writer
	p, all := room(9)
	was := bytes.Clone(p)
	w.Bytes(p)
	spoil(all)
	if got := w.Out()[1:]; !bytes.Equal(got, was) {
		t.Errorf("laid: % x, want % x", got, was)
	}
	p, all = room(9)
	r := octet.NewReader(p)
	spoil(all)
	for i, b := range was {
		if got := r.Byte(); got != b {
			t.Errorf("byte %d: %02x, want %02x", i, got, b)
		}
	}
	if r.End() != api.OK {
		t.Error("the spare room is none of it:", r.Left())
	}
}

func TestBytesAreNewMemory(t *testing.T) {
	r := octet.NewReader(laidBy(func(w *octet.Writer) {
		layAll(w.Bytes, [][]byte{nil, []byte("b"), []byte("cc"), []byte("ddd")})
		w.Num(5)
	}))
	first := r.Bytes()
	second := r.Bytes()
	spoil(first)
	third := r.Bytes()
	spoil(third)
	if fourth := r.Bytes(); string(second) != "b" || string(fourth) != "ddd" {
		t.Errorf("%q, %q", second, fourth)
	}
	spoil(second)
	if r.Num() != 5 || r.End() != api.OK {
		t.Error("what is left was changed by way of an answer")
	}
}

func TestNilWriter(t *testing.T) {
	var w *octet.Writer
	w.Byte(1)
	w.Two(2)
	w.Four(3)
	w.Num(4)
	w.Num(math.MinInt)
	w.Bytes([]byte("x"))
	w.Bytes(nil)
	w.Hash(api.Hash{1})
	if b := w.Out(); len(b) != 0 {
		t.Errorf("% x", b)
	}
	lay := w.Num
	lay(1)
	if b := w.Out(); len(b) != 0 {
		t.Errorf("% x by a method value", b)
	}
}

func TestNilReader(t *testing.T) {
	var r *octet.Reader
	expectOver(t, "a nil Reader", r, api.ErrShort)
	if take := r.Num; take() != 0 || r.End() != api.ErrShort {
		t.Error("by a method value")
	}
}
