package seglog_test

import (
	"bytes"
	"fmt"
	"math"
	"slices"
	"strings"
	"testing"

	"gauntlet/api"
	"gauntlet/disk"
	"gauntlet/frame"
	"gauntlet/octet"
	"gauntlet/seglog"
)

const room = 1 << 20

func made(t *testing.T, room int) *disk.Disk {
	t.Helper()
	d, e := disk.New(room)
	if e != api.OK {
		t.Fatal(e)
	}
	return d
}

func opened(t *testing.T, d *disk.Disk, prefix string) *seglog.Log {
	t.Helper()
	l, e := seglog.Open(d, prefix)
	if l == nil || e != api.OK {
		t.Fatalf("Open: got %v, %v", l, e)
	}
	return l
}

func done(t *testing.T, e api.Errno) {
	t.Helper()
	if e != api.OK {
		t.Fatal(e)
	}
}

func appended(t *testing.T, l *seglog.Log, p []byte, want int) {
	t.Helper()
	if n, e := l.Append(p); n != want || e != api.OK {
		t.Fatalf("Append: got %d, %v, want %d", n, e, want)
	}
}

func refused(t *testing.T, l *seglog.Log, p []byte, want api.Errno) {
	t.Helper()
	if n, e := l.Append(p); n != 0 || e != want {
		t.Fatalf("Append: got %d, %v, want 0, %v", n, e, want)
	}
}

func next(t *testing.T, l *seglog.Log, want, lasting int) {
	t.Helper()
	if n, s := l.Next(); n != want || s != lasting {
		t.Fatalf("Next: got %d, %d, want %d, %d", n, s, want, lasting)
	}
}

func named(t *testing.T, l *seglog.Log, want ...string) {
	t.Helper()
	if got := l.Names(); !slices.Equal(got, want) {
		t.Fatalf("Names: got %q, want %q", got, want)
	}
}

// holds tells that the log has just these entries.
func holds(t *testing.T, l *seglog.Log, want [][]byte) {
	t.Helper()
	for i, p := range want {
		if got, e := l.Entry(i + 1); !bytes.Equal(got, p) || e != api.OK {
			t.Fatalf("Entry(%d): got %x, %v, want %x", i+1, got, e, p)
		}
	}
	if got, e := l.Entry(len(want) + 1); len(got) != 0 || e != api.ErrNone {
		t.Fatalf("Entry(%d): got %x, %v, want ErrNone", len(want)+1, got, e)
	}
}

// held is the record of any bytes.
func held(p []byte) []byte {
	b, e := frame.Encode(p)
	if e != api.OK {
		panic(e)
	}
	return b
}

// rec is the record of an entry, as the document says it.
func rec(n int, p []byte) []byte {
	var w octet.Writer
	w.Num(n)
	return held(append(w.Out(), p...))
}

// word is an entry by which its number is told again.
func word(n int) []byte { return []byte(fmt.Sprint("entry ", n)) }

// recs are the records of words.
func recs(numbers ...int) []byte {
	var b []byte
	for _, n := range numbers {
		b = append(b, rec(n, word(n))...)
	}
	return b
}

func words(n int) [][]byte {
	var all [][]byte
	for i := range n {
		all = append(all, word(i+1))
	}
	return all
}

// picture is all that can be told of a disk: each file, and what would be left of it.
func picture(d *disk.Disk) string {
	var b strings.Builder
	after := d.Copy()
	after.Crash(0, 0)
	for _, name := range d.Names() {
		p, _ := d.Read(name)
		q, _ := after.Read(name)
		fmt.Fprintf(&b, "%q: %x, %d last\n", name, p, len(q))
	}
	return b.String()
}

// burnt tells that the fuse is burnt, and not only lit.
func burnt(d *disk.Disk) bool { return d.Sync("no such file") == api.ErrDead }

type file struct {
	name string
	data []byte
}

// step is one of the five that Open must do.
type step struct {
	what string
	name string
	n    int
}

func (s step) do(t *testing.T, d *disk.Disk) {
	t.Helper()
	switch s.what {
	case "Remove":
		done(t, d.Remove(s.name))
	case "Cut":
		done(t, d.Cut(s.name, s.n))
	default:
		done(t, d.Sync(s.name))
	}
}

func remove(name string) step      { return step{"Remove", name, 0} }
func cut(name string, n int) step  { return step{"Cut", name, n} }
func sync(name string) step        { return step{"Sync", name, 0} }
func cutBy(b []byte, n int) []byte { return b[:len(b)-n] }

func turned(b []byte, i int) []byte {
	b = bytes.Clone(b)
	b[i] ^= 1
	return b
}

func join(parts ...[]byte) []byte { return bytes.Join(parts, nil) }

const (
	p0, p1, p2, p3  = "p00000000", "p00000001", "p00000002", "p00000003"
	p4, p5, p6, p10 = "p00000004", "p00000005", "p00000006", "p00000010"
)

// layout is files, what Open must do with them, and what it must find.
type layout struct {
	name  string
	files []file
	steps []step
	found int
	names []string
}

func rightLayouts() []layout {
	long := recs(1, 2, 3, 4, 5, 6, 7, 8, 9)
	return []layout{
		{"no file", nil, nil, 0, nil},
		{"one segment", []file{{p1, recs(1, 2, 3)}}, []step{sync(p1)}, 3, []string{p1}},
		{"three segments", []file{{p1, recs(1, 2, 3)}, {p4, recs(4)}, {p5, recs(5, 6)}},
			[]step{sync(p1), sync(p4), sync(p5)}, 6, []string{p1, p4, p5}},
		{"laid the other way round", []file{{p10, recs(10)}, {p1, long}},
			[]step{sync(p1), sync(p10)}, 10, []string{p1, p10}},
		{"an empty segment alone", []file{{p1, nil}}, []step{sync(p1)}, 0, []string{p1}},
		{"an empty segment at the end", []file{{p1, recs(1, 2)}, {p3, nil}},
			[]step{sync(p1), sync(p3)}, 2, []string{p1, p3}},
	}
}

// namedWrong are layouts of which a segment does not begin as it must.
func namedWrong() []layout {
	return []layout{
		{"the first begins with 2", []file{{p2, recs(2, 3)}, {p4, recs(4)}},
			[]step{remove(p4), remove(p2)}, 0, nil},
		{"the first begins with 2, but has 1", []file{{p2, recs(1, 2)}}, []step{remove(p2)}, 0, nil},
		{"the first begins with 0", []file{{p0, recs(0)}, {p1, recs(1)}, {p2, recs(2)}},
			[]step{remove(p2), remove(p1), remove(p0)}, 0, nil},
		{"the first begins with 0 and is empty", []file{{p0, nil}, {p1, recs(1)}},
			[]step{remove(p1), remove(p0)}, 0, nil},
		{"the greatest number alone", []file{{"p99999999", recs(1)}}, []step{remove("p99999999")}, 0, nil},
		{"one is lacking", []file{{p1, recs(1, 2)}, {p4, recs(4)}, {p5, recs(5)}, {p6, recs(6)}},
			[]step{remove(p6), remove(p5), remove(p4), sync(p1)}, 2, []string{p1}},
		{"one is lacking, the next is empty", []file{{p1, recs(1, 2)}, {p4, nil}},
			[]step{remove(p4), sync(p1)}, 2, []string{p1}},
		{"one begins too early", []file{{p1, recs(1, 2)}, {p2, recs(2, 3)}, {p4, recs(4)}},
			[]step{remove(p4), remove(p2), sync(p1)}, 2, []string{p1}},
		{"one begins too early, with the right record", []file{{p1, recs(1, 2)}, {p2, recs(3)}},
			[]step{remove(p2), sync(p1)}, 2, []string{p1}},
		{"behind an empty one", []file{{p1, recs(1)}, {p2, nil}, {p3, recs(3)}, {p4, recs(4)}},
			[]step{remove(p4), remove(p3), sync(p1), sync(p2)}, 1, []string{p1, p2}},
	}
}

// tornWithin are layouts of which a segment is not whole, or bears a wrong number.
func tornWithin() []layout {
	one, two := len(recs(1)), len(recs(1, 2))
	all := len(recs(1, 2, 3))
	return []layout{
		{"the end is torn off", []file{{p1, cutBy(recs(1, 2, 3), 1)}},
			[]step{cut(p1, two), sync(p1)}, 2, []string{p1}},
		{"something is behind", []file{{p1, append(recs(1, 2, 3), 0)}, {p4, recs(4)}},
			[]step{remove(p4), cut(p1, all), sync(p1)}, 3, []string{p1}},
		{"torn in the middle", []file{{p1, turned(recs(1, 2, 3), two-1)}, {p4, recs(4)}, {p5, recs(5)}},
			[]step{remove(p5), remove(p4), cut(p1, one), sync(p1)}, 1, []string{p1}},
		{"the second is torn", []file{{p1, recs(1, 2)}, {p3, cutBy(recs(3, 4), 3)}, {p5, recs(5)}, {p6, recs(6)}},
			[]step{remove(p6), remove(p5), cut(p3, len(recs(3))), sync(p1), sync(p3)}, 3, []string{p1, p3}},
		{"the second is torn, what follows fits again", []file{{p1, recs(1, 2)}, {p3, cutBy(recs(3, 4), 3)}, {p4, recs(4)}},
			[]step{remove(p4), cut(p3, len(recs(3))), sync(p1), sync(p3)}, 3, []string{p1, p3}},
		{"nothing of the first is whole", []file{{p1, turned(recs(1, 2), 0)}, {p3, recs(3)}},
			[]step{remove(p3), remove(p1)}, 0, nil},
		{"nothing of the second is whole", []file{{p1, recs(1, 2)}, {p3, cutBy(recs(3), 1)}, {p4, recs(4)}},
			[]step{remove(p4), remove(p3), sync(p1)}, 2, []string{p1}},
		{"one byte", []file{{p1, []byte{0}}}, []step{remove(p1)}, 0, nil},
		{"a wrong number in the middle", []file{{p1, recs(1, 3, 2)}, {p4, recs(4)}},
			[]step{remove(p4), cut(p1, one), sync(p1)}, 1, []string{p1}},
		{"a number twice", []file{{p1, recs(1, 1, 2)}}, []step{cut(p1, one), sync(p1)}, 1, []string{p1}},
		{"a number below 0", []file{{p1, recs(1, -2)}}, []step{cut(p1, one), sync(p1)}, 1, []string{p1}},
		{"a wrong number first", []file{{p1, recs(2, 3)}, {p3, recs(3)}},
			[]step{remove(p3), remove(p1)}, 0, nil},
		{"a wrong number first in the second", []file{{p1, recs(1)}, {p2, recs(1, 2)}},
			[]step{remove(p2), sync(p1)}, 1, []string{p1}},
		{"a record of nothing", []file{{p1, join(recs(1), held(nil))}},
			[]step{cut(p1, one), sync(p1)}, 1, []string{p1}},
		{"a number with a nought too many", []file{{p1, join(recs(1), held([]byte{0x84, 0x00, 'x'}))}},
			[]step{cut(p1, one), sync(p1)}, 1, []string{p1}},
		{"a number that does not end", []file{{p1, join(recs(1), held(bytes.Repeat([]byte{0x84}, 12)))}},
			[]step{cut(p1, one), sync(p1)}, 1, []string{p1}},
	}
}

func allLayouts() []layout {
	return slices.Concat(rightLayouts(), namedWrong(), tornWithin())
}

// others are files that are no segments of the prefix p.
func others() []string {
	return []string{"p", "p0000001", "p000000001", "p0000000a", "pa0000001", "p 0000001", "p-0000001", "p+0000001", "p0000001 ",
		"p0000.001", "p0000000/", "p0000000:", "p\u0663000001", "q00000001", "P00000001", "pp00000001", "p100000001", "00000001", "000000001", "x" + p1, p1 + "x"}
}

// laidOut is a disk with these files, of which nothing lasts.
func laidOut(t *testing.T, files []file) *disk.Disk {
	t.Helper()
	d := made(t, room)
	for _, f := range files {
		done(t, d.Write(f.name, f.data))
	}
	return d
}

// P5.1: what may not be handed in.
func TestOpenWrong(t *testing.T) {
	for _, size := range []int{0, 51, 64, 1000} {
		for _, d := range []*disk.Disk{nil, made(t, room)} {
			if l, e := seglog.Open(d, strings.Repeat("p", size)); l != nil || e != api.ErrArg {
				t.Errorf("a prefix of %d bytes: got %v, %v", size, l, e)
			}
		}
	}
	for _, prefix := range []string{"p", strings.Repeat("p", 50)} {
		if l, e := seglog.Open(nil, prefix); l != nil || e != api.ErrArg {
			t.Errorf("no disk, %q: got %v, %v", prefix, l, e)
		}
	}
}

// P5.1: a refused prefix touches nothing.
func TestOpenWrongTouchesNothing(t *testing.T) {
	long := strings.Repeat("p", 51)
	d := laidOut(t, []file{{long + "00000002", recs(2)}, {"00000002", recs(2)}})
	was := picture(d)
	seglog.Open(d, "")
	seglog.Open(d, long)
	if got := picture(d); got != was {
		t.Errorf("got %s, want %s", got, was)
	}
}

// P5.1: prefixes of 1 and of 50 bytes, and of any bytes.
func TestOpenPrefixes(t *testing.T) {
	for _, prefix := range []string{"p", strings.Repeat("p", 50), "0", "\x00\xff", strings.Repeat("\xff", 50), "a/b\n"} {
		d := made(t, room)
		l := opened(t, d, prefix)
		appended(t, l, word(1), 1)
		done(t, l.Sync())
		if got, _ := d.Read(prefix + "00000001"); !bytes.Equal(got, recs(1)) {
			t.Errorf("%q: got %x", prefix, got)
		}
		holds(t, opened(t, d, prefix), words(1))
	}
}

// P5.1: what Open does, step by step: a fuse tells each of the ways that it has gone, and that it goes no further.
func TestOpenSteps(t *testing.T) {
	for _, c := range allLayouts() {
		t.Run(c.name, func(t *testing.T) {
			for k := range len(c.steps) + 1 {
				d, want := laidOut(t, c.files), laidOut(t, c.files)
				for _, s := range c.steps[:k] {
					s.do(t, want)
				}
				d.Fuse(k)
				l, e := seglog.Open(d, "p")
				if got := picture(d); got != picture(want) {
					t.Fatalf("behind %d steps: got\n%swant\n%s", k, got, picture(want))
				}
				if k < len(c.steps) {
					if l != nil || e != api.ErrDead {
						t.Fatalf("behind %d steps: got %v, %v, want ErrDead", k, l, e)
					}
					continue
				}
				if e != api.OK || !burnt(d) {
					t.Fatalf("got %v, fuse burnt %v", e, burnt(d))
				}
				holds(t, l, words(c.found))
				next(t, l, c.found+1, c.found+1)
				named(t, l, c.names...)
			}
		})
	}
}

// P5.1: what lasts already is Synced all the same, and what was taken away stays so.
func TestOpenAgain(t *testing.T) {
	for _, c := range allLayouts() {
		d := laidOut(t, c.files)
		opened(t, d, "p")
		was := picture(d)
		d.Crash(0, 0)
		d.Fuse(len(c.names))
		l := opened(t, d, "p")
		if !burnt(d) {
			t.Errorf("%s: fewer than %d Syncs", c.name, len(c.names))
		}
		holds(t, l, words(c.found))
		named(t, l, c.names...)
		if got := picture(d); got != was {
			t.Errorf("%s: got %s, want %s", c.name, got, was)
		}
	}
}

// P5.1: a log that ended somewhere goes on there.
func TestOpenGoesOn(t *testing.T) {
	for _, c := range allLayouts() {
		d := laidOut(t, c.files)
		l := opened(t, d, "p")
		for n := c.found + 1; n < c.found+4; n++ {
			appended(t, l, word(n), n)
		}
		names := c.names
		if len(names) == 0 {
			names = []string{p1}
		}
		named(t, l, names...)
		next(t, l, c.found+4, c.found+1)
		again := opened(t, d, "p")
		holds(t, again, words(c.found+3))
		named(t, again, names...)
	}
}

// P5.1: files of other names are left as they are, whatever happens beside them.
func TestOpenOtherFiles(t *testing.T) {
	for _, c := range allLayouts() {
		d, want := laidOut(t, c.files), laidOut(t, c.files)
		for i, name := range others() {
			done(t, d.Write(name, recs(i)))
			done(t, want.Write(name, recs(i)))
		}
		for _, s := range c.steps {
			s.do(t, want)
		}
		l := opened(t, d, "p")
		holds(t, l, words(c.found))
		named(t, l, c.names...)
		if got := picture(d); got != picture(want) {
			t.Errorf("%s: got\n%swant\n%s", c.name, got, picture(want))
		}
	}
}

// P5.1: logs of several prefixes on one disk, of which one begins as another does.
func TestOpenPrefixesTogether(t *testing.T) {
	d := made(t, room)
	prefixes := []string{"p", "p0", "pp", "p00000001", "0"}
	for i, prefix := range prefixes {
		l := opened(t, d, prefix)
		for n := range i + 2 {
			appended(t, l, word(n+1), n+1)
		}
	}
	for i, prefix := range prefixes {
		l := opened(t, d, prefix)
		holds(t, l, words(i+2))
		named(t, l, prefix+"00000001")
	}
}

// P5.1: with nothing to be done a burnt fuse is no error.
func TestOpenBurnt(t *testing.T) {
	d := made(t, room)
	d.Fuse(0)
	l := opened(t, d, "p")
	next(t, l, 1, 1)
	named(t, l)
}

// P5.2: numbers follow each other, and what is laid is as the document says it.
func TestAppend(t *testing.T) {
	d := made(t, room)
	l := opened(t, d, "p")
	next(t, l, 1, 1)
	named(t, l)
	if len(d.Names()) != 0 {
		t.Error(d.Names())
	}
	var want []byte
	for n, p := range [][]byte{nil, {}, {0}, []byte("abc"), {0x80, 0xff}} {
		appended(t, l, p, n+1)
		want = append(want, rec(n+1, p)...)
		next(t, l, n+2, 1)
		named(t, l, p1)
		if got, _ := d.Read(p1); !bytes.Equal(got, want) {
			t.Fatalf("got %x, want %x", got, want)
		}
	}
	d.Crash(0, 0)
	if got, _ := d.Read(p1); len(got) != 0 {
		t.Errorf("it lasts ahead of a Sync: %x", got)
	}
}

// P5.2: the longest entry, and one more byte.
func TestAppendLong(t *testing.T) {
	d := made(t, room)
	l := opened(t, d, "p")
	longest := bytes.Repeat([]byte{7}, api.MaxFrame-10)
	was := picture(d)
	for _, size := range []int{api.MaxFrame - 9, api.MaxFrame, api.MaxFrame + 1, 1 << 20} {
		refused(t, l, make([]byte, size), api.ErrLong)
	}
	if got := picture(d); got != was {
		t.Errorf("got %s, want %s", got, was)
	}
	next(t, l, 1, 1)
	appended(t, l, longest, 1)
	// Behind the longest there must be a new segment: one that is too long does not even Sync for it.
	refused(t, l, make([]byte, api.MaxFrame-9), api.ErrLong)
	next(t, l, 2, 1)
	appended(t, l, longest, 2)
	holds(t, opened(t, d, "p"), [][]byte{longest, longest})
}

// P5.2: the segment is the last one below SegBytes, a new one from there on.
func TestAppendSegBytes(t *testing.T) {
	head := len(rec(1, nil))
	for _, size := range []int{api.SegBytes - 1, api.SegBytes, api.SegBytes + 1} {
		for _, reopen := range []bool{false, true} {
			d := made(t, room)
			l := opened(t, d, "p")
			first := make([]byte, size-head)
			appended(t, l, first, 1)
			lasting := 1
			if reopen {
				l = opened(t, d, "p")
				lasting = 2
			}
			appended(t, l, []byte("x"), 2)
			if size < api.SegBytes {
				named(t, l, p1)
				next(t, l, 3, lasting)
			} else {
				named(t, l, p1, p2)
				next(t, l, 3, 2)
				if got, _ := d.Read(p2); !bytes.Equal(got, rec(2, []byte("x"))) {
					t.Errorf("got %x", got)
				}
			}
			holds(t, opened(t, d, "p"), [][]byte{first, []byte("x")})
		}
	}
}

// P5.2: a segment is as long as all its entries are, those that Open found with those laid behind.
func TestAppendSegmentSizes(t *testing.T) {
	d := made(t, room)
	size, want := 0, []string(nil)
	for n := 1; n < 200; n++ {
		l := opened(t, d, "p")
		for range n % 3 {
			if size >= api.SegBytes || n == 1 && len(want) == 0 {
				m, _ := l.Next()
				want, size = append(want, fmt.Sprintf("p%08d", m)), 0
			}
			m, _ := l.Next()
			p := make([]byte, n%70)
			appended(t, l, p, m)
			size += len(rec(m, p))
		}
		named(t, l, want...)
	}
	if len(want) < 5 {
		t.Error("too few segments to tell anything")
	}
}

// grown is a log with one segment of SegBytes bytes or more, of whose two entries the first alone lasts.
func grown(t *testing.T, d *disk.Disk) *seglog.Log {
	t.Helper()
	l := opened(t, d, "p")
	appended(t, l, word(1), 1)
	done(t, l.Sync())
	appended(t, l, make([]byte, api.SegBytes), 2)
	next(t, l, 3, 2)
	return l
}

// P5.2: ahead of a new segment the last one is Synced: with a fuse each step is seen.
func TestAppendSyncAhead(t *testing.T) {
	d := made(t, room)
	l := grown(t, d)
	d.Fuse(0)
	was := picture(d)
	refused(t, l, word(3), api.ErrDead)
	if got := picture(d); got != was {
		t.Errorf("got %s, want %s", got, was)
	}
	next(t, l, 3, 2)
	named(t, l, p1)

	d = made(t, room)
	l = grown(t, d)
	want := d.Copy()
	done(t, want.Sync(p1))
	d.Fuse(1)
	refused(t, l, word(3), api.ErrDead)
	if got := picture(d); got != picture(want) {
		t.Errorf("got %s, want %s", got, picture(want))
	}
	next(t, l, 3, 3)
	named(t, l, p1)
	if l.Sync() != api.ErrDead {
		t.Error("it is not dead")
	}

	d = made(t, room)
	l = grown(t, d)
	d.Fuse(2)
	appended(t, l, word(3), 3)
	if !burnt(d) {
		t.Error("fewer than two steps")
	}
	next(t, l, 4, 3)
	named(t, l, p1, p3)
}

// P5.2: nothing is Synced ahead of a new segment, if all entries last; nor within a segment.
func TestAppendNoSync(t *testing.T) {
	d := made(t, room)
	l := grown(t, d)
	done(t, l.Sync())
	d.Fuse(1)
	appended(t, l, word(3), 3)
	next(t, l, 4, 3)
	d.Fuse(1)
	appended(t, l, word(4), 4)
	next(t, l, 5, 3)
	if !burnt(d) {
		t.Error("no step")
	}
}

// P5.2: a disk that is full lays nothing, and the log goes on.
func TestAppendFull(t *testing.T) {
	d := made(t, 60)
	l := opened(t, d, "p")
	refused(t, l, make([]byte, 60), api.ErrFull)
	next(t, l, 1, 1)
	named(t, l)
	if len(d.Names()) != 0 {
		t.Error(d.Names())
	}
	done(t, l.Sync())
	appended(t, l, word(1), 1)
	was := picture(d)
	refused(t, l, make([]byte, 30), api.ErrFull)
	if got := picture(d); got != was {
		t.Errorf("got %s, want %s", got, was)
	}
	next(t, l, 2, 1)
	named(t, l, p1)
	appended(t, l, word(2), 2)
	done(t, l.Sync())
	next(t, l, 3, 3)
	d.Crash(0, 0)
	holds(t, opened(t, d, "p"), words(2))
}

// P5.2: a full disk where a new segment was wanted: the Sync ahead of it is done, no file is made.
func TestAppendFullSegment(t *testing.T) {
	d := made(t, room)
	l := grown(t, d)
	done(t, d.Write("z", make([]byte, room-d.Used()-20)))
	want := d.Copy()
	done(t, want.Sync(p1))
	refused(t, l, make([]byte, 30), api.ErrFull)
	if got := picture(d); got != picture(want) {
		t.Error("it differs from a Sync alone")
	}
	next(t, l, 3, 3)
	named(t, l, p1)
	appended(t, l, nil, 3)
	next(t, l, 4, 3)
	named(t, l, p1, p3)
	holds(t, opened(t, d, "p"), [][]byte{word(1), make([]byte, api.SegBytes), nil})
}

// P5.2: as many files as there may be: ErrFull too, until there is a place again.
func TestAppendMaxFiles(t *testing.T) {
	d := made(t, room)
	for i := range api.MaxFiles {
		done(t, d.Write(fmt.Sprint("x", i), nil))
	}
	l := opened(t, d, "p")
	for range 2 {
		refused(t, l, word(1), api.ErrFull)
		next(t, l, 1, 1)
		named(t, l)
	}
	done(t, d.Remove("x0"))
	appended(t, l, word(1), 1)
	named(t, l, p1)
}

// P5.2, P5.3: another error of the disk is the log's death, even if the disk lives again.
func TestDead(t *testing.T) {
	d := made(t, room)
	l := opened(t, d, "p")
	appended(t, l, word(1), 1)
	done(t, l.Sync())
	appended(t, l, word(2), 2)
	d.Fuse(0)
	was := picture(d)
	for range 2 {
		refused(t, l, word(3), api.ErrDead)
	}
	d.Fuse(-1)
	refused(t, l, word(3), api.ErrDead)
	refused(t, l, make([]byte, api.MaxFrame), api.ErrDead) // ahead of ErrLong
	if e := l.Sync(); e != api.ErrDead {
		t.Error(e)
	}
	if got := picture(d); got != was {
		t.Errorf("got %s, want %s", got, was)
	}
	next(t, l, 3, 2)
	named(t, l, p1)
	holds(t, l, words(2))
	again := opened(t, d, "p")
	appended(t, again, word(3), 3)
	holds(t, again, words(3))
}

// P5.2: ErrLong lets the log live, though the fuse is burnt: the disk was not asked.
func TestLongIsNotDead(t *testing.T) {
	d := made(t, room)
	l := opened(t, d, "p")
	d.Fuse(0)
	refused(t, l, make([]byte, api.MaxFrame), api.ErrLong)
	d.Fuse(-1)
	appended(t, l, word(1), 1)
}

// P5.2, P5.3: whatever error it is that the disk answers.
func TestDeadByAnotherError(t *testing.T) {
	d := made(t, room)
	l := opened(t, d, "p")
	appended(t, l, word(1), 1)
	done(t, d.Remove(p1))
	if e := l.Sync(); e != api.ErrNone {
		t.Error(e)
	}
	refused(t, l, word(2), api.ErrDead)

	d = made(t, room)
	l = grown(t, d)
	done(t, d.Remove(p1))
	refused(t, l, word(3), api.ErrNone)
	if len(d.Names()) != 0 {
		t.Error(d.Names())
	}
	if e := l.Sync(); e != api.ErrDead {
		t.Error(e)
	}
	next(t, l, 3, 2)
	named(t, l, p1)
}

// P5.3: Sync, with and without an entry that does not last.
func TestSync(t *testing.T) {
	d := made(t, room)
	l := opened(t, d, "p")
	d.Fuse(0)
	done(t, l.Sync())
	d.Fuse(2)
	appended(t, l, word(1), 1)
	next(t, l, 2, 1)
	done(t, l.Sync())
	next(t, l, 2, 2)
	if !burnt(d) {
		t.Fatal("nothing was Synced")
	}
	done(t, l.Sync())
	d.Fuse(-1)
	want := d.Copy()
	want.Crash(0, 0)
	if got := picture(d); got != picture(want) {
		t.Errorf("got %s, want %s", got, picture(want))
	}
	appended(t, l, word(2), 2)
	d.Fuse(0)
	if e := l.Sync(); e != api.ErrDead {
		t.Error(e)
	}
	next(t, l, 3, 2)
	d.Fuse(-1)
	if e := l.Sync(); e != api.ErrDead {
		t.Error("it lives again")
	}
	refused(t, l, word(3), api.ErrDead)
	l = opened(t, d, "p")
	d.Fuse(0)
	done(t, l.Sync()) // what Open found lasts
}

// P5.3: Sync asks for the last segment alone.
func TestSyncLastAlone(t *testing.T) {
	d := made(t, room)
	l := grown(t, d)
	appended(t, l, word(3), 3)
	d.Fuse(1)
	done(t, l.Sync())
	next(t, l, 4, 4)
	d.Crash(0, 0)
	next(t, opened(t, d, "p"), 4, 4)
}

// P5.3: Entry of what is none.
func TestEntryNone(t *testing.T) {
	d := made(t, room)
	l := opened(t, d, "p")
	for _, n := range []int{math.MinInt, -1, 0, 1, 2, math.MaxInt} {
		if p, e := l.Entry(n); len(p) != 0 || e != api.ErrNone {
			t.Errorf("Entry(%d): got %x, %v", n, p, e)
		}
	}
	appended(t, l, nil, 1)
	appended(t, l, word(2), 2)
	for _, n := range []int{math.MinInt, -1, 0, 3, 4, math.MaxInt} {
		if p, e := l.Entry(n); len(p) != 0 || e != api.ErrNone {
			t.Errorf("Entry(%d): got %x, %v", n, p, e)
		}
	}
	holds(t, l, [][]byte{nil, word(2)})
}

// The document's example, and its neighbours: what was torn off is not there.
func TestExample(t *testing.T) {
	whole := len(rec(3, []byte("c")))
	for keep := range whole + 1 {
		d := made(t, room)
		l := opened(t, d, "p")
		appended(t, l, []byte("a"), 1)
		appended(t, l, []byte("b"), 2)
		done(t, l.Sync())
		appended(t, l, []byte("c"), 3)
		d.Crash(keep, 0)
		want := 3 + keep/whole
		next(t, opened(t, d, "p"), want, want)
	}
}

// P5.4: Crash and Open wherever the fuse burnt, within an Open too, with the sectors torn and not torn.
func TestCrashAnywhere(t *testing.T) {
	entry := func(n int) []byte { return bytes.Repeat([]byte{byte(n)}, n*31%150) }
	for fuse := range 50 {
		for keep := range 40 {
			for _, tear := range []byte{0, 1, 0xff} {
				d := made(t, room)
				l := opened(t, d, "p")
				d.Fuse(fuse)
				laid, lasting := work(l, entry)
				d.Crash(keep*13, tear)
				d.Fuse(keep % 5)
				seglog.Open(d, "p")
				d.Crash(keep, tear)
				l = opened(t, d, "p")
				n, s := l.Next()
				if n-1 < lasting || n-1 > laid || s != n {
					t.Fatal(fuse, keep, tear, "got", n, s, "laid", laid, "lasting", lasting)
				}
				for i := 1; i < n; i++ {
					if p, e := l.Entry(i); !bytes.Equal(p, entry(i)) || e != api.OK {
						t.Fatal(fuse, keep, tear, i, p, e)
					}
				}
				appended(t, l, entry(n), n)
			}
		}
	}
}

// work lays entries, some of them Synced, until the disk is dead: how many were laid, and how many last.
func work(l *seglog.Log, entry func(int) []byte) (laid, lasting int) {
	for n := 1; n <= 35; n++ {
		if _, e := l.Append(entry(n)); e != api.OK {
			break
		}
		laid = n
		if n%7 == 3 && l.Sync() != api.OK {
			break
		}
	}
	_, synced := l.Next()
	return laid, synced - 1
}

// P5.4: a Crash within each Open, as many as it takes, over each layout that a crash or a hand may leave.
func TestCrashWithinOpen(t *testing.T) {
	for _, c := range allLayouts() {
		for keep := range 8 {
			d := laidOut(t, c.files)
			d.Crash(math.MaxInt/8*keep, 0)
			first := opened(t, d.Copy(), "p")
			want, _ := first.Next()
			for k := range 12 {
				d.Fuse(k % 4)
				seglog.Open(d, "p")
				d.Crash(keep, byte(k))
			}
			next(t, opened(t, d, "p"), want, want)
		}
	}
}

// P5.5: what is handed in is neither changed nor kept, nor is its spare room.
func TestHandedIn(t *testing.T) {
	d := made(t, room)
	l := opened(t, d, "p")
	var want [][]byte
	for n := 1; n <= 60; n++ {
		p := bytes.Repeat([]byte{byte(n)}, n+20)
		was := bytes.Clone(p)
		appended(t, l, p[:n], n)
		if !bytes.Equal(p, was) {
			t.Fatalf("%x was changed to %x", was, p)
		}
		clear(p)
		want = append(want, was[:n])
	}
	holds(t, l, want)
	holds(t, opened(t, d, "p"), want)
}

// P5.5: what is answered is new memory, spare room too.
func TestAnswered(t *testing.T) {
	d := made(t, room)
	l := opened(t, d, "p")
	for n := 1; n <= 100; n++ {
		appended(t, l, word(n), n)
	}
	for _, l := range []*seglog.Log{l, opened(t, d, "p")} {
		names := slices.Clone(l.Names())
		for n := range 100 {
			p, _ := l.Entry(n + 1)
			clear(p[:cap(p)])
		}
		got := l.Names()
		clear(got[:cap(got)])
		holds(t, l, words(100))
		named(t, l, names...)
		first, last := l.Names(), l.Names()
		clear(first[:cap(first)])
		if !slices.Equal(last, names) {
			t.Error("two answers share memory")
		}
	}
	holds(t, opened(t, d, "p"), words(100))
}

// P5.5: what was answered stays, whatever is called later.
func TestAnsweredStays(t *testing.T) {
	d := made(t, room)
	l := opened(t, d, "p")
	appended(t, l, word(1), 1)
	p, _ := l.Entry(1)
	names := l.Names()
	for n := 2; n < 200; n++ {
		appended(t, l, word(n), n)
	}
	if !bytes.Equal(p, word(1)) || !slices.Equal(names, []string{p1}) {
		t.Error(p, names)
	}
}

// P5.5: a nil Log is one to which nothing happens.
func TestNilLog(t *testing.T) {
	var l *seglog.Log
	for _, p := range [][]byte{nil, {1}, make([]byte, api.MaxFrame+1)} {
		refused(t, l, p, api.ErrArg)
	}
	if e := l.Sync(); e != api.ErrArg {
		t.Error(e)
	}
	for _, n := range []int{-1, 0, 1} {
		if p, e := l.Entry(n); len(p) != 0 || e != api.ErrNone {
			t.Error(p, e)
		}
	}
	next(t, l, 0, 0)
	named(t, l)
}

// W1: a Log that nobody opened does not panic, nor one whose disk was Crashed.
func TestUnopened(t *testing.T) {
	var zero seglog.Log
	d := made(t, room)
	crashed := grown(t, d)
	d.Crash(0, 1)
	for _, l := range []*seglog.Log{&zero, crashed} {
		l.Sync()
		l.Append(nil)
		l.Append(word(1))
		l.Sync()
		l.Entry(1)
		l.Next()
		l.Names()
	}
}

// draw is numbers that look like none was chosen.
type draw uint64

func (s *draw) below(n int) int {
	*s = *s*6364136223846793005 + 1442695040888963407
	return int(*s>>33) % n
}

// model is the words of P5.1 to P5.3, with its files kept by hand.
type model struct {
	entries [][]byte
	lasting int
	names   []string
	files   map[string][]byte
	left    int // of the room
}

func (m *model) append(p []byte) (int, api.Errno) {
	if len(p) > api.MaxFrame-10 {
		return 0, api.ErrLong
	}
	n := len(m.entries) + 1
	if len(m.names) == 0 || len(m.files[m.names[len(m.names)-1]]) >= api.SegBytes {
		m.lasting = n - 1
		if len(rec(n, p)) > m.left {
			return 0, api.ErrFull
		}
		m.names = append(m.names, fmt.Sprintf("p%08d", n))
	}
	b := rec(n, p)
	if len(b) > m.left {
		return 0, api.ErrFull
	}
	name := m.names[len(m.names)-1]
	m.files[name] = append(m.files[name], b...)
	m.left -= len(b)
	m.entries = append(m.entries, bytes.Clone(p))
	return n, api.OK
}

func (m *model) sync() api.Errno {
	m.lasting = len(m.entries)
	return api.OK
}

// All promises together: whatever is drawn, the log is as the model says, and so are its files.
func TestModel(t *testing.T) {
	for seed := range 60 {
		s := draw(seed)
		size := 2000 + s.below(20000)
		d := made(t, size)
		l := opened(t, d, "p")
		m := &model{files: map[string][]byte{}, left: size}
		for range 200 {
			switch s.below(12) {
			case 0:
				if got, want := l.Sync(), m.sync(); got != want {
					t.Fatal(seed, got, want)
				}
			case 1:
				l = opened(t, d, "p")
				m.lasting = len(m.entries)
			case 2:
				d.Fuse(0)
				refused(t, l, make([]byte, api.MaxFrame), api.ErrLong)
				d.Fuse(-1)
			default:
				p := bytes.Repeat([]byte{byte(s.below(256))}, s.below(300))
				n, e := l.Append(p)
				if wantN, want := m.append(p); n != wantN || e != want {
					t.Fatal(seed, n, e, wantN, want)
				}
			}
			same(t, d, l, m)
		}
		holds(t, l, m.entries)
	}
}

func same(t *testing.T, d *disk.Disk, l *seglog.Log, m *model) {
	t.Helper()
	next(t, l, len(m.entries)+1, m.lasting+1)
	named(t, l, m.names...)
	if !slices.Equal(d.Names(), m.names) {
		t.Fatalf("got %q, want %q", d.Names(), m.names)
	}
	for _, name := range m.names {
		if got, _ := d.Read(name); !bytes.Equal(got, m.files[name]) {
			t.Fatalf("%s: got %x, want %x", name, got, m.files[name])
		}
	}
}
