package disk_test

import (
	"bytes"
	"math"
	"slices"
	"strconv"
	"strings"
	"testing"

	"gauntlet/api"
	"gauntlet/disk"
)

// call is one of the five, with what it is handed.
type call func(d *disk.Disk) api.Errno

// fiveOf are the five, each with one name wherever it takes one.
func fiveOf(name string) map[string]call {
	return map[string]call{
		"Write":                func(d *disk.Disk) api.Errno { return d.Write(name, []byte("w")) },
		"Sync":                 func(d *disk.Disk) api.Errno { return d.Sync(name) },
		"Cut":                  func(d *disk.Disk) api.Errno { return d.Cut(name, 0) },
		"Rename, the first":    func(d *disk.Disk) api.Errno { return d.Rename(name, "other") },
		"Rename, the second":   func(d *disk.Disk) api.Errno { return d.Rename("a", name) },
		"Rename, both of them": func(d *disk.Disk) api.Errno { return d.Rename(name, name) },
		"Remove":               func(d *disk.Disk) api.Errno { return d.Remove(name) },
	}
}

// missing are those that ask for a file that is not there.
func missing(name string) map[string]call {
	return map[string]call{
		"Sync":   func(d *disk.Disk) api.Errno { return d.Sync(name) },
		"Cut":    func(d *disk.Disk) api.Errno { return d.Cut(name, 0) },
		"Rename": func(d *disk.Disk) api.Errno { return d.Rename(name, "a") },
		"Remove": func(d *disk.Disk) api.Errno { return d.Remove(name) },
	}
}

func made(t *testing.T, room int) *disk.Disk {
	t.Helper()
	d, e := disk.New(room)
	if d == nil || e != api.OK {
		t.Fatalf("New(%d): got %v, %v", room, d, e)
	}
	return d
}

// laid is a disk with one file "a": the first so many bytes last, the others don't.
func laid(t *testing.T, lasting, others []byte) *disk.Disk {
	t.Helper()
	d := made(t, 1<<20)
	done(t, d.Write("a", lasting))
	done(t, d.Sync("a"))
	done(t, d.Write("a", others))
	return d
}

func done(t *testing.T, got api.Errno) {
	t.Helper()
	expect(t, "what is to be done", got, api.OK)
}

func expect(t *testing.T, what string, got, want api.Errno) {
	t.Helper()
	if got != want {
		t.Errorf("%s: got %v, want %v", what, got, want)
	}
}

// has tells that these are all files, by names and texts in turn.
func has(t *testing.T, d *disk.Disk, rows ...string) {
	t.Helper()
	var names []string
	used := 0
	for i := 0; i < len(rows); i += 2 {
		names = append(names, rows[i])
		used += len(rows[i+1])
		if p, e := d.Read(rows[i]); string(p) != rows[i+1] || e != api.OK {
			t.Errorf("file %q: got %q, %v, want %q", rows[i], p, e, rows[i+1])
		}
	}
	if got := d.Names(); !slices.Equal(got, names) {
		t.Errorf("Names: got %q, want %q", got, names)
	}
	if d.Used() != used {
		t.Errorf("Used: got %d, want %d", d.Used(), used)
	}
}

// lasts tells that these files, and of each these bytes, are what a crash that keeps nothing leaves.
func lasts(t *testing.T, d *disk.Disk, rows ...string) {
	t.Helper()
	c := d.Copy()
	c.Crash(0, 0)
	has(t, c, rows...)
}

// someBytes are n bytes that no small step repeats; each seed has its own.
func someBytes(n, seed int) []byte {
	p := make([]byte, n)
	x := uint32(seed)*2654435761 + 1
	for i := range p {
		x = x*1664525 + 1013904223
		p[i] = byte(x >> 24)
	}
	return p
}

// P3.1

func TestNewTakesARoomThatMayBe(t *testing.T) {
	for _, room := range []int{0, 1, 100, 1<<30 - 1, 1 << 30} {
		d := made(t, room)
		has(t, d)
		expect(t, "a file of no bytes", d.Write("a", nil), api.OK)
		expect(t, "without a fuse", d.Sync("a"), api.OK)
	}
}

func TestNewRefusesARoomThatMayNotBe(t *testing.T) {
	for _, room := range []int{-1, -100, math.MinInt, 1<<30 + 1, 1 << 31, 1 << 32, math.MaxInt} {
		if d, e := disk.New(room); d != nil || e != api.ErrArg {
			t.Errorf("New(%d): got %v, %v, want ErrArg", room, d, e)
		}
	}
}

func TestNewDisksAreApart(t *testing.T) {
	d, c := made(t, 10), made(t, 10)
	done(t, d.Write("a", []byte("1")))
	has(t, c)
	has(t, d, "a", "1")
}

func TestABurntFuseIsAheadOfAllElse(t *testing.T) {
	for _, name := range []string{"a", "none", "", strings.Repeat("n", 64), strings.Repeat("n", 65)} {
		for what, do := range fiveOf(name) {
			d := laid(t, []byte("12"), []byte("34"))
			d.Fuse(0)
			expect(t, what+" of "+strconv.Quote(name), do(d), api.ErrDead)
			has(t, d, "a", "1234")
			lasts(t, d, "a", "12")
		}
	}
	d := laid(t, []byte("12"), []byte("34"))
	d.Fuse(0)
	expect(t, "what does not fit", d.Write("a", make([]byte, 1<<21)), api.ErrDead)
	expect(t, "a length below 0", d.Cut("a", -1), api.ErrDead)
	expect(t, "a length beyond the file", d.Cut("a", 5), api.ErrDead)
}

func TestNamesThatMayNotBe(t *testing.T) {
	long := strings.Repeat("n", 65)
	for _, name := range []string{"", long, long + long, strings.Repeat("é", 33), strings.Repeat("n", 1<<20)} {
		for what, do := range fiveOf(name) {
			d := laid(t, []byte("12"), []byte("34"))
			expect(t, what+" of a name of "+strconv.Itoa(len(name))+" bytes", do(d), api.ErrArg)
			has(t, d, "a", "1234")
			lasts(t, d, "a", "12")
		}
	}
}

func TestANameThatIsNoneIsAheadOfTheRest(t *testing.T) {
	d := made(t, 1)
	expect(t, "what does not fit", d.Write("", make([]byte, 2)), api.ErrArg)
	expect(t, "a file that is not there", d.Sync(""), api.ErrArg)
	expect(t, "an old name that is none", d.Rename("", "b"), api.ErrArg)
	expect(t, "a new name that is none, of what is not there", d.Rename("none", ""), api.ErrArg)
	expect(t, "both names are none", d.Rename("", strings.Repeat("n", 65)), api.ErrArg)
	has(t, d)
}

func TestNamesThatMayBe(t *testing.T) {
	for _, name := range []string{
		"b", "\x00", "\xff", " ", "/", "..", "é", "ab\x00", strings.Repeat("n", 63), strings.Repeat("n", 64),
		strings.Repeat("\xff", 64), strings.Repeat("é", 32),
	} {
		d := made(t, 10)
		done(t, d.Write(name, []byte("12")))
		has(t, d, name, "12")
		done(t, d.Sync(name))
		lasts(t, d, name, "12")
		done(t, d.Cut(name, 1))
		has(t, d, name, "1")
		done(t, d.Rename(name, "x"))
		has(t, d, "x", "1")
		done(t, d.Rename("x", name))
		has(t, d, name, "1")
		done(t, d.Remove(name))
		has(t, d)
	}
}

// P3.2

func TestWriteLaysBehind(t *testing.T) {
	d := made(t, 100)
	done(t, d.Write("a", []byte("12")))
	done(t, d.Write("b", []byte("x")))
	done(t, d.Write("a", []byte("345")))
	done(t, d.Write("a", nil))
	done(t, d.Write("a", []byte{}))
	done(t, d.Write("a", []byte("6")))
	has(t, d, "a", "123456", "b", "x")
	lasts(t, d, "a", "", "b", "")
}

func TestWriteMakesAFileOfNoBytes(t *testing.T) {
	d := made(t, 0)
	done(t, d.Write("b", nil))
	done(t, d.Write("a", []byte{}))
	has(t, d, "a", "", "b", "")
	lasts(t, d, "a", "", "b", "")
}

func TestWriteUpToTheRoom(t *testing.T) {
	for _, room := range []int{0, 1, 2, 31, 32, 33, 1000} {
		d := made(t, room)
		expect(t, "one byte beyond, no file", d.Write("a", make([]byte, room+1)), api.ErrFull)
		has(t, d)
		all := string(someBytes(room, room))
		done(t, d.Write("a", []byte(all)))
		has(t, d, "a", all)
		expect(t, "one byte beyond, a file that is there", d.Write("a", make([]byte, 1)), api.ErrFull)
		expect(t, "one byte beyond, another file", d.Write("b", make([]byte, 1)), api.ErrFull)
		has(t, d, "a", all)
		done(t, d.Write("a", nil))
		done(t, d.Write("b", nil))
		has(t, d, "a", all, "b", "")
	}
}

func TestTheRoomIsThatOfAllFiles(t *testing.T) {
	d := made(t, 10)
	done(t, d.Write("a", []byte("1234")))
	done(t, d.Write("b", []byte("123")))
	expect(t, "four bytes where three fit", d.Write("b", []byte("4567")), api.ErrFull)
	expect(t, "four bytes of a new file", d.Write("c", []byte("4567")), api.ErrFull)
	has(t, d, "a", "1234", "b", "123")
	done(t, d.Write("c", []byte("456")))
	expect(t, "one more", d.Write("a", []byte("5")), api.ErrFull)
	has(t, d, "a", "1234", "b", "123", "c", "456")
}

// What is gone counts no more, whatever took it away.
func TestRoomComesBack(t *testing.T) {
	for what, do := range map[string]func(d *disk.Disk){
		"Cut":    func(d *disk.Disk) { d.Cut("b", 0) },
		"Remove": func(d *disk.Disk) { d.Remove("b") },
		"Rename": func(d *disk.Disk) { d.Rename("empty", "b") },
		"Crash":  func(d *disk.Disk) { d.Crash(0, 0) },
	} {
		d := made(t, 10)
		done(t, d.Write("a", []byte("1234")))
		done(t, d.Sync("a"))
		done(t, d.Write("empty", nil))
		done(t, d.Write("b", []byte("123456")))
		expect(t, what+": full", d.Write("a", []byte("5")), api.ErrFull)
		do(d)
		if d.Used() != 4 {
			t.Errorf("%s: got %d bytes, want 4", what, d.Used())
		}
		expect(t, what+": seven bytes", d.Write("a", make([]byte, 7)), api.ErrFull)
		expect(t, what+": six bytes", d.Write("a", make([]byte, 6)), api.OK)
	}
}

// The bytes are handed in alone: to lay them would take a gigabyte.
func TestWriteBeyondTheGreatestRoom(t *testing.T) {
	d := made(t, 1<<30)
	p := make([]byte, 1<<30+1)
	expect(t, "one byte beyond", d.Write("a", p), api.ErrFull)
	done(t, d.Write("a", p[:1]))
	expect(t, "one byte beyond, with another one", d.Write("a", p[:1<<30]), api.ErrFull)
	has(t, d, "a", "\x00")
}

func full(t *testing.T, room int) *disk.Disk {
	t.Helper()
	d := made(t, room)
	for i := range api.MaxFiles {
		done(t, d.Write("f"+strconv.Itoa(i), nil))
	}
	return d
}

func TestWriteUpToMaxFiles(t *testing.T) {
	d := full(t, 10)
	expect(t, "one file beyond", d.Write("x", nil), api.ErrFull)
	expect(t, "one file beyond, with bytes", d.Write("x", []byte("1")), api.ErrFull)
	if _, e := d.Read("x"); e != api.ErrNone || len(d.Names()) != api.MaxFiles || d.Used() != 0 {
		t.Errorf("got %v, %d files of %d bytes", e, len(d.Names()), d.Used())
	}
	expect(t, "a file that is there", d.Write("f0", []byte("1")), api.OK)
	expect(t, "a file that gets another name", d.Rename("f1", "x"), api.OK)
	expect(t, "one file beyond again", d.Write("f1", nil), api.ErrFull)
	done(t, d.Remove("f2"))
	expect(t, "one in its place", d.Write("y", nil), api.OK)
	expect(t, "and one beyond", d.Write("z", nil), api.ErrFull)
	done(t, d.Rename("x", "y"))
	expect(t, "one in the place of what is gone", d.Write("z", nil), api.OK)
}

func TestACopyHasTheSameMaxFiles(t *testing.T) {
	d := full(t, 10).Copy()
	expect(t, "one file beyond", d.Write("x", nil), api.ErrFull)
	d.Crash(0, 0)
	expect(t, "one file beyond, behind a crash", d.Write("x", nil), api.ErrFull)
}

func TestSyncMakesAllLast(t *testing.T) {
	d := made(t, 100)
	done(t, d.Write("a", []byte("12")))
	done(t, d.Write("b", []byte("xy")))
	lasts(t, d, "a", "", "b", "")
	done(t, d.Sync("a"))
	has(t, d, "a", "12", "b", "xy")
	lasts(t, d, "a", "12", "b", "")
	done(t, d.Write("a", []byte("34")))
	lasts(t, d, "a", "12", "b", "")
	done(t, d.Sync("a"))
	done(t, d.Sync("a"))
	lasts(t, d, "a", "1234", "b", "")
	done(t, d.Sync("b"))
	lasts(t, d, "a", "1234", "b", "xy")
}

func TestWhatIsNotThere(t *testing.T) {
	for _, name := range []string{"none", "A", "a\x00", "aa", strings.Repeat("a", 64)} {
		for what, do := range missing(name) {
			d := laid(t, []byte("12"), []byte("34"))
			expect(t, what+" of "+strconv.Quote(name), do(d), api.ErrNone)
			has(t, d, "a", "1234")
			lasts(t, d, "a", "12")
		}
	}
}

func TestCutOfWhatIsNotThereIsAheadOfItsLength(t *testing.T) {
	d := made(t, 100)
	for _, n := range []int{math.MinInt, -1, 0, 1, math.MaxInt} {
		expect(t, "Cut to "+strconv.Itoa(n), d.Cut("none", n), api.ErrNone)
	}
	has(t, d)
}

func TestCutKeepsTheFirstBytes(t *testing.T) {
	for _, lasting := range []int{0, 1, 3, 6} {
		for n := range 7 {
			d := laid(t, []byte("123456")[:lasting], []byte("123456")[lasting:])
			done(t, d.Write("b", []byte("x")))
			done(t, d.Cut("a", n))
			has(t, d, "a", "123456"[:n], "b", "x")
			lasts(t, d, "a", "123456"[:min(n, lasting)], "b", "")
		}
	}
}

func TestCutRefusesALengthThatMayNotBe(t *testing.T) {
	for _, n := range []int{math.MinInt, -6, -1, 7, 8, 1 << 32, math.MaxInt} {
		d := laid(t, []byte("123"), []byte("456"))
		expect(t, "Cut to "+strconv.Itoa(n), d.Cut("a", n), api.ErrArg)
		has(t, d, "a", "123456")
		lasts(t, d, "a", "123")
	}
	d := laid(t, nil, nil)
	expect(t, "Cut of an empty file to 1", d.Cut("a", 1), api.ErrArg)
	expect(t, "Cut of an empty file to 0", d.Cut("a", 0), api.OK)
	has(t, d, "a", "")
}

func TestWhatIsCutOffIsGone(t *testing.T) {
	d := laid(t, []byte("1234"), []byte("56"))
	done(t, d.Cut("a", 2))
	expect(t, "Cut to what it was", d.Cut("a", 3), api.ErrArg)
	done(t, d.Write("a", []byte("xy")))
	has(t, d, "a", "12xy")
	lasts(t, d, "a", "12")
	d.Crash(1, 0)
	has(t, d, "a", "12x")
}

// P3.3

func TestRenameGivesAnotherName(t *testing.T) {
	d := laid(t, []byte("12"), []byte("34"))
	done(t, d.Write("c", []byte("x")))
	done(t, d.Rename("a", "z"))
	has(t, d, "c", "x", "z", "1234")
	lasts(t, d, "c", "", "z", "12")
	expect(t, "the old name", d.Sync("a"), api.ErrNone)
	done(t, d.Write("z", []byte("5")))
	done(t, d.Write("a", []byte("new")))
	has(t, d, "a", "new", "c", "x", "z", "12345")
	lasts(t, d, "a", "", "c", "", "z", "12")
	done(t, d.Sync("z"))
	lasts(t, d, "a", "", "c", "", "z", "12345")
}

func TestRenameTakesTheNameOfAnother(t *testing.T) {
	d := laid(t, []byte("12"), []byte("34"))
	done(t, d.Write("b", []byte("all of this is gone")))
	done(t, d.Sync("b"))
	done(t, d.Rename("a", "b"))
	has(t, d, "b", "1234")
	lasts(t, d, "b", "12")

	d = laid(t, []byte("12"), []byte("34"))
	done(t, d.Write("b", []byte("it does not last")))
	done(t, d.Rename("b", "a"))
	has(t, d, "a", "it does not last")
	lasts(t, d, "a", "")
}

func TestRenameToItsOwnName(t *testing.T) {
	d := laid(t, []byte("12"), []byte("34"))
	done(t, d.Write("b", []byte("x")))
	done(t, d.Rename("a", "a"))
	has(t, d, "a", "1234", "b", "x")
	lasts(t, d, "a", "12", "b", "")
	expect(t, "what is not there to its own name", d.Rename("c", "c"), api.ErrNone)
	has(t, d, "a", "1234", "b", "x")
}

func TestRenameOfWhatIsNotThereTakesNothing(t *testing.T) {
	d := laid(t, []byte("12"), []byte("34"))
	expect(t, "onto a file", d.Rename("none", "a"), api.ErrNone)
	expect(t, "onto nothing", d.Rename("none", "b"), api.ErrNone)
	has(t, d, "a", "1234")
	lasts(t, d, "a", "12")
}

func TestRemoveTakesAFileAway(t *testing.T) {
	d := laid(t, []byte("12"), []byte("34"))
	done(t, d.Write("b", []byte("x")))
	done(t, d.Remove("a"))
	has(t, d, "b", "x")
	lasts(t, d, "b", "")
	if p, e := d.Read("a"); len(p) != 0 || e != api.ErrNone {
		t.Errorf("got %q, %v", p, e)
	}
	expect(t, "once more", d.Remove("a"), api.ErrNone)
	done(t, d.Write("a", []byte("new")))
	has(t, d, "a", "new", "b", "x")
	lasts(t, d, "a", "", "b", "")
}

// P3.4

func TestAFuseLetsSoManyBeDone(t *testing.T) {
	for _, n := range []int{0, 1, 2, 3, 10} {
		d := made(t, 100)
		d.Fuse(n)
		for range n {
			expect(t, "ahead of the fuse's end", d.Write("a", []byte("1")), api.OK)
		}
		for range 3 {
			expect(t, "behind it", d.Write("a", []byte("1")), api.ErrDead)
			expect(t, "behind it", d.Sync("a"), api.ErrDead)
		}
		if d.Used() != n {
			t.Errorf("a fuse of %d: got %d bytes", n, d.Used())
		}
	}
}

func TestEachOfTheFiveBurnsOne(t *testing.T) {
	for what, do := range map[string]call{
		"Write":                 func(d *disk.Disk) api.Errno { return d.Write("a", []byte("5")) },
		"Write of no bytes":     func(d *disk.Disk) api.Errno { return d.Write("a", nil) },
		"Write of a new file":   func(d *disk.Disk) api.Errno { return d.Write("b", nil) },
		"Sync":                  func(d *disk.Disk) api.Errno { return d.Sync("a") },
		"Cut":                   func(d *disk.Disk) api.Errno { return d.Cut("a", 1) },
		"Cut to its length":     func(d *disk.Disk) api.Errno { return d.Cut("a", 4) },
		"Rename":                func(d *disk.Disk) api.Errno { return d.Rename("a", "b") },
		"Rename to its own one": func(d *disk.Disk) api.Errno { return d.Rename("a", "a") },
		"Remove":                func(d *disk.Disk) api.Errno { return d.Remove("a") },
	} {
		d := laid(t, []byte("12"), []byte("34"))
		d.Fuse(2)
		expect(t, what, do(d), api.OK)
		expect(t, "the second behind "+what, d.Write("x", nil), api.OK)
		expect(t, "the third behind "+what, d.Write("x", nil), api.ErrDead)
	}
}

func TestWhatErrsBurnsNothing(t *testing.T) {
	d := laid(t, []byte("12"), []byte("34"))
	d.Fuse(1)
	for _, name := range []string{"", strings.Repeat("n", 65)} {
		for what, do := range fiveOf(name) {
			expect(t, what, do(d), api.ErrArg)
		}
	}
	for what, do := range missing("none") {
		expect(t, what, do(d), api.ErrNone)
	}
	expect(t, "a length below 0", d.Cut("a", -1), api.ErrArg)
	expect(t, "a length beyond the file", d.Cut("a", 5), api.ErrArg)
	expect(t, "what does not fit", d.Write("a", make([]byte, 1<<20)), api.ErrFull)
	expect(t, "the one", d.Sync("a"), api.OK)
	expect(t, "the next", d.Sync("a"), api.ErrDead)
}

func TestWhatIsAskedBurnsNothing(t *testing.T) {
	d := laid(t, []byte("12"), []byte("34"))
	d.Fuse(1)
	d.Read("a")
	d.Read("none")
	d.Names()
	d.Used()
	d.Copy()
	expect(t, "the one", d.Sync("a"), api.OK)
	has(t, d, "a", "1234")
	expect(t, "the next", d.Write("a", nil), api.ErrDead)
	has(t, d, "a", "1234")
	lasts(t, d, "a", "1234")
}

func TestAnotherFuseTakesTheOnesPlace(t *testing.T) {
	d := laid(t, []byte("12"), []byte("34"))
	d.Fuse(5)
	d.Fuse(1)
	expect(t, "the one", d.Sync("a"), api.OK)
	expect(t, "the next", d.Sync("a"), api.ErrDead)
	d.Fuse(2)
	expect(t, "the first of two", d.Sync("a"), api.OK)
	expect(t, "the second of two", d.Sync("a"), api.OK)
	expect(t, "the third", d.Sync("a"), api.ErrDead)
	for _, n := range []int{-1, -2, math.MinInt} {
		d.Fuse(0)
		d.Fuse(n)
		for range 20 {
			expect(t, "without a fuse", d.Sync("a"), api.OK)
		}
	}
	d.Fuse(math.MaxInt)
	expect(t, "a long fuse", d.Sync("a"), api.OK)
}

// P3.5

func TestTheExample(t *testing.T) {
	d := laid(t, []byte{1, 2, 3, 4}, []byte{5, 6})
	d.Crash(1, 1)
	has(t, d, "a", "\x01\x02\x03\x04\x04")
	d = laid(t, []byte("1234"), []byte("56"))
	d.Crash(1, 1)
	has(t, d, "a", "1234\x34")
}

// kept is how many of u bytes a crash leaves, counted out one by one.
func kept(keep, u int) int {
	if keep < 0 {
		return 0
	}
	for keep > 1<<20 { // by whole rounds, so that great numbers end
		keep -= keep / (u + 1) * (u + 1)
	}
	n := 0
	for range keep {
		if n++; n == u+1 {
			n = 0
		}
	}
	return n
}

func TestCrashKeepsAsManyAsItSays(t *testing.T) {
	keeps := []int{math.MinInt, -7, -1, 0, 1, 2, 3, 4, 5, 6, 7, 8, 9, 13, 14, 15, 1000, math.MaxInt - 1, math.MaxInt}
	for _, lasting := range []int{0, 1, 5, 32, 40} {
		for _, u := range []int{0, 1, 2, 6, 7} {
			for _, keep := range keeps {
				all := someBytes(lasting+u, 1)
				d := laid(t, all[:lasting], all[lasting:])
				d.Crash(keep, 0)
				has(t, d, "a", string(all[:lasting+kept(keep, u)]))
			}
		}
	}
}

// torn is what a crash leaves, as the document tells it: byte by byte, each by its own place.
func torn(all []byte, lasting, keep int, tear byte) []byte {
	left := slices.Clone(all[:lasting+kept(keep, len(all)-lasting)])
	from := 0
	for from+api.Sector < len(left) {
		from += api.Sector
	}
	for i := range left {
		if tear != 0 && i >= lasting && i >= from {
			left[i] ^= tear
		}
	}
	return left
}

func TestCrashTearsTheLastSector(t *testing.T) {
	lengths := []int{0, 1, 2, 30, 31, 32, 33, 34, 62, 63, 64, 65, 66, 95, 96, 97, 128}
	for _, length := range lengths {
		all := someBytes(length, length)
		for lasting := range length + 1 {
			for _, keep := range []int{0, 1, length - lasting - 1, length - lasting, length - lasting + 1, 32} {
				for _, tear := range []byte{0, 1, 0x80, 0xff} {
					d := laid(t, all[:lasting], all[lasting:])
					d.Crash(keep, tear)
					want := torn(all, lasting, keep, tear)
					if got, e := d.Read("a"); !bytes.Equal(got, want) || e != api.OK {
						t.Fatalf("%d bytes, %d last, Crash(%d, %d): got %x, %v, want %x", length, lasting, keep, tear, got, e, want)
					}
				}
			}
		}
	}
}

func TestTearsAtASectorsEdge(t *testing.T) {
	for _, x := range []struct {
		lasting, others, turned int
	}{
		{0, 31, 31}, {0, 32, 32}, {0, 33, 1}, {0, 63, 31}, {0, 64, 32}, {0, 65, 1},
		{31, 1, 1}, {32, 0, 0}, {32, 1, 1}, {20, 12, 12}, {20, 13, 1}, {40, 24, 24}, {40, 25, 1}, {64, 0, 0}, {63, 2, 1},
	} {
		length := x.lasting + x.others
		d := laid(t, bytes.Repeat([]byte("x"), x.lasting), bytes.Repeat([]byte("x"), x.others))
		d.Crash(x.others, 1)
		has(t, d, "a", strings.Repeat("x", length-x.turned)+strings.Repeat("y", x.turned))
	}
}

func TestCrashGoesThroughAllFiles(t *testing.T) {
	d := made(t, 10000)
	var rows []string
	for i := range 40 {
		name := string(rune('A' + i))
		lasting, all := i%3*i, someBytes(3*i, i)
		done(t, d.Write(name, all[:lasting]))
		done(t, d.Sync(name))
		done(t, d.Write(name, all[lasting:]))
		rows = append(rows, name, string(torn(all, lasting, 35, 1)))
	}
	d.Crash(35, 1)
	has(t, d, rows...)
	lasts(t, d, rows...)
}

func TestAllThatIsThereLastsBehindACrash(t *testing.T) {
	d := laid(t, []byte("12"), []byte("3456"))
	done(t, d.Write("b", []byte("xy")))
	d.Crash(2, 0)
	has(t, d, "a", "1234", "b", "xy")
	lasts(t, d, "a", "1234", "b", "xy")
	d.Crash(1, 0xff)
	d.Crash(7, 0xff)
	has(t, d, "a", "1234", "b", "xy")
	done(t, d.Write("a", []byte("56")))
	lasts(t, d, "a", "1234", "b", "xy")
	d.Crash(1, 1)
	has(t, d, "a", "12344", "b", "xy")
	d.Crash(1, 1)
	has(t, d, "a", "12344", "b", "xy")
}

func TestFilesAreThereBehindACrash(t *testing.T) {
	d := made(t, 100)
	done(t, d.Write("empty", nil))
	done(t, d.Write("forgotten", []byte("12")))
	d.Crash(0, 1)
	has(t, d, "empty", "", "forgotten", "")
	made(t, 5).Crash(1, 1)
}

func TestThereIsNoFuseBehindACrash(t *testing.T) {
	for _, n := range []int{0, 1, 5, -1} {
		d := laid(t, []byte("12"), []byte("34"))
		d.Fuse(n)
		d.Crash(0, 0)
		for range 20 {
			expect(t, "behind a crash", d.Write("a", []byte("5")), api.OK)
		}
	}
}

func TestTheRoomStaysBehindACrash(t *testing.T) {
	d := made(t, 5)
	done(t, d.Write("a", []byte("123")))
	d.Crash(1, 0)
	expect(t, "five bytes", d.Write("a", make([]byte, 5)), api.ErrFull)
	expect(t, "four bytes", d.Write("a", make([]byte, 4)), api.OK)
}

// P3.6

func TestReadOfWhatIsNotThere(t *testing.T) {
	d := laid(t, []byte("12"), nil)
	for _, name := range []string{"", "b", "A", strings.Repeat("n", 64), strings.Repeat("n", 65)} {
		if p, e := d.Read(name); len(p) != 0 || e != api.ErrNone {
			t.Errorf("Read(%q): got %q, %v", name, p, e)
		}
	}
	d.Fuse(0)
	if p, e := d.Read("b"); len(p) != 0 || e != api.ErrNone {
		t.Errorf("with a burnt fuse: got %q, %v", p, e)
	}
}

func TestWhatIsAskedOfABurntDisk(t *testing.T) {
	d := laid(t, []byte("12"), []byte("34"))
	d.Fuse(0)
	has(t, d, "a", "1234")
	lasts(t, d, "a", "12")
}

func TestNamesRise(t *testing.T) {
	want := []string{"\x00", "\x00\x00", " ", "10", "2", "B", "a", "a\x00", "a0", "aa", "ab", "b", "z", "\x7f", "\x80", "é", "日本", "\xff", "\xff\xff"}
	for seed := range 20 {
		d := made(t, 0)
		names := slices.Clone(want)
		for i, b := range someBytes(len(names), seed) {
			j := int(b) % (i + 1)
			names[i], names[j] = names[j], names[i]
		}
		for _, name := range names {
			done(t, d.Write(name, nil))
		}
		if got := d.Names(); !slices.Equal(got, want) {
			t.Errorf("got %q, want %q", got, want)
		}
	}
}

func TestCopyHasTheSame(t *testing.T) {
	d := laid(t, []byte("12"), []byte("34"))
	done(t, d.Write("b", nil))
	done(t, d.Write("c", []byte("xyz")))
	c := d.Copy()
	has(t, c, "a", "1234", "b", "", "c", "xyz")
	c.Crash(1, 0)
	has(t, c, "a", "123", "b", "", "c", "x")
	has(t, d, "a", "1234", "b", "", "c", "xyz")
	lasts(t, d, "a", "12", "b", "", "c", "")
	has(t, made(t, 7).Copy())
}

func TestCopyHasTheSameRoom(t *testing.T) {
	for _, room := range []int{0, 1, 10} {
		c := made(t, room).Copy()
		expect(t, "one byte beyond", c.Write("a", make([]byte, room+1)), api.ErrFull)
		expect(t, "the room", c.Write("a", make([]byte, room)), api.OK)
		expect(t, "one more", c.Copy().Write("a", make([]byte, 1)), api.ErrFull)
	}
}

func TestCopyHasNoFuse(t *testing.T) {
	for _, n := range []int{0, 1, 2} {
		d := laid(t, []byte("12"), []byte("34"))
		d.Fuse(n)
		c := d.Copy()
		for range 20 {
			expect(t, "the copy", c.Write("a", []byte("5")), api.OK)
		}
		for range n {
			expect(t, "the first", d.Sync("a"), api.OK)
		}
		expect(t, "the first, burnt", d.Sync("a"), api.ErrDead)
	}
}

func TestCopyIsApart(t *testing.T) {
	for what, do := range map[string]func(d *disk.Disk){
		"Write":    func(d *disk.Disk) { d.Write("a", []byte("5")) },
		"Cut":      func(d *disk.Disk) { d.Cut("a", 1); d.Write("a", []byte("x")) },
		"Sync":     func(d *disk.Disk) { d.Sync("a") },
		"Rename":   func(d *disk.Disk) { d.Rename("a", "b") },
		"Remove":   func(d *disk.Disk) { d.Remove("a") },
		"new file": func(d *disk.Disk) { d.Write("z", nil) },
		"Crash":    func(d *disk.Disk) { d.Crash(1, 0xff) },
		"Fuse":     func(d *disk.Disk) { d.Fuse(0) },
	} {
		d := laid(t, []byte("12"), []byte("34"))
		c := d.Copy()
		for _, pair := range [][2]*disk.Disk{{d, c.Copy()}, {c.Copy(), d.Copy()}} {
			changed, stays := pair[0], pair[1]
			do(changed)
			has(t, stays, "a", "1234")
			lasts(t, stays, "a", "12")
			expect(t, what+": the other one", stays.Write("a", []byte("6")), api.OK)
			has(t, stays, "a", "12346")
		}
	}
	d := laid(t, []byte("12"), []byte("34"))
	c := d.Copy()
	done(t, d.Write("a", []byte("d")))
	done(t, c.Write("a", []byte("c")))
	has(t, d, "a", "1234d")
	has(t, c, "a", "1234c")
}

// P3.7

func TestBytesThatLastAreNeverTurned(t *testing.T) {
	for length := range 100 {
		all := someBytes(length, 9)
		d := laid(t, all, nil)
		for keep := range 40 {
			d.Crash(keep, 0xff)
		}
		has(t, d, "a", string(all))
		done(t, d.Write("a", []byte("other")))
		d.Crash(5, 0xff)
		if got, _ := d.Read("a"); !bytes.Equal(got[:length], all) {
			t.Errorf("%d bytes that last: got %x, want %x", length, got, all)
		}
	}
}

func TestWhatIsHandedInIsNeitherChangedNorKept(t *testing.T) {
	for _, n := range []int{0, 1, 7, 8, 31, 32, 33, 100} {
		d := made(t, 1000)
		whole := someBytes(n+200, n)
		p := whole[100 : 100+n]
		want := string(p)
		done(t, d.Write("a", p))
		done(t, d.Write("b", p))
		done(t, d.Write("a", []byte("more")))
		d.Crash(n+4, 0xff)
		if !bytes.Equal(whole, someBytes(n+200, n)) {
			t.Errorf("%d bytes, or the room about them, have changed", n)
		}
		c := made(t, 1000)
		done(t, c.Write("a", p))
		done(t, c.Write("a", nil))
		for i := range whole {
			whole[i] ^= 0xff
		}
		has(t, c, "a", want)
	}
}

func TestWhatIsAnsweredIsNewMemory(t *testing.T) {
	for _, n := range []int{1, 7, 8, 31, 32, 33, 100} {
		all := string(someBytes(n, n))
		d := laid(t, []byte(all), []byte(all))
		one, _ := d.Read("a")
		two, _ := d.Read("a")
		spoil(one)
		if string(two) != all+all {
			t.Errorf("%d bytes: two answers share memory", n)
		}
		has(t, d, "a", all+all)
		done(t, d.Write("a", []byte("end")))
		has(t, d, "a", all+all+"end")
		done(t, d.Cut("a", 1))
		done(t, d.Write("a", []byte("another")))
		d.Crash(3, 0xff)
		if string(two) != all+all {
			t.Errorf("%d bytes: an answer has changed behind it", n)
		}
	}
}

// spoil changes all bytes of a list, and those of its spare room.
func spoil(p []byte) {
	p = p[:cap(p)]
	for i := range p {
		p[i] ^= 0xff
	}
}

func TestNamesAreANewList(t *testing.T) {
	d := made(t, 10)
	for _, name := range []string{"b", "a", "c"} {
		done(t, d.Write(name, nil))
	}
	one, two := d.Names(), d.Names()
	one[0], one[1], one[2] = "x", "y", "z"
	has(t, d, "a", "", "b", "", "c", "")
	done(t, d.Remove("a"))
	if !slices.Equal(two, []string{"a", "b", "c"}) {
		t.Errorf("an answer has changed behind it: %q", two)
	}
}

func TestANilDisk(t *testing.T) {
	var d *disk.Disk
	for _, name := range []string{"a", "", strings.Repeat("n", 65)} {
		for what, do := range fiveOf(name) {
			expect(t, what, do(d), api.ErrArg)
		}
		if p, e := d.Read(name); len(p) != 0 || e != api.ErrNone {
			t.Errorf("Read(%q): got %q, %v", name, p, e)
		}
	}
	expect(t, "Write of nothing", d.Write("a", nil), api.ErrArg)
	expect(t, "Cut below 0", d.Cut("a", -1), api.ErrArg)
	for _, n := range []int{-1, 0, 1} {
		d.Fuse(n)
		d.Crash(n, byte(n))
		expect(t, "Sync", d.Sync("a"), api.ErrArg)
	}
	if d.Names() != nil || d.Used() != 0 || d.Copy() != nil {
		t.Errorf("got %q, %d, %v", d.Names(), d.Used(), d.Copy())
	}
}

// A Disk that New did not make is one without room; none of its calls panics.
func TestADiskWithoutAValue(t *testing.T) {
	for name, do := range missing("none") {
		expect(t, name, do(new(disk.Disk)), api.ErrNone)
	}
	d := new(disk.Disk)
	d.Crash(1, 1)
	has(t, d.Copy())
	expect(t, "a byte", d.Write("a", []byte("1")), api.ErrFull)
	expect(t, "no byte", d.Write("a", nil), api.OK)
	has(t, d, "a", "")
	d.Fuse(0)
	expect(t, "burnt", d.Sync("a"), api.ErrDead)
}
