package store_test

import (
	"bytes"
	"fmt"
	"math"
	"slices"
	"strings"
	"testing"

	"gauntlet/api"
	"gauntlet/disk"
	"gauntlet/frame"
	"gauntlet/octet"
	"gauntlet/store"
)

const (
	room    = 1 << 20
	most    = 1 << 40 // the greatest key, and the greatest age
	longest = 1 << 15 // the most bytes of a record
)

func made(t *testing.T, room int) *disk.Disk {
	t.Helper()
	d, e := disk.New(room)
	if e != api.OK {
		t.Fatal(e)
	}
	return d
}

func opened(t *testing.T, d *disk.Disk) *store.Store {
	t.Helper()
	s, e := store.Open(d)
	if s == nil || e != api.OK {
		t.Fatalf("Open: got %v, %v", s, e)
	}
	return s
}

func unopened(t *testing.T, d *disk.Disk, want api.Errno) {
	t.Helper()
	if s, e := store.Open(d); s != nil || e != want {
		t.Fatalf("Open: got %v, %v, want %v", s, e, want)
	}
}

func done(t *testing.T, e api.Errno) {
	t.Helper()
	if e != api.OK {
		t.Fatal(e)
	}
}

func erred(t *testing.T, got, want api.Errno) {
	t.Helper()
	if got != want {
		t.Fatalf("got %v, want %v", got, want)
	}
}

func appended(t *testing.T, s *store.Store, key int, p string, want int) {
	t.Helper()
	if n, e := s.Append(key, []byte(p)); n != want || e != api.OK {
		t.Fatalf("Append(%d): got %d, %v, want %d", key, n, e, want)
	}
}

func refused(t *testing.T, s *store.Store, key int, p []byte, want api.Errno) {
	t.Helper()
	if n, e := s.Append(key, p); n != 0 || e != want {
		t.Fatalf("Append(%d): got %d, %v, want 0, %v", key, n, e, want)
	}
}

func aged(t *testing.T, s *store.Store, age, waste int) {
	t.Helper()
	if a, w := s.Age(); a != age || w != waste {
		t.Fatalf("Age: got %d, %d, want %d, %d", a, w, age, waste)
	}
}

// all is all that a store tells of its streams, asked with keys that it may have and some that it has not.
func all(s *store.Store) string {
	var b strings.Builder
	fmt.Fprintln(&b, s.Keys())
	for _, key := range []int{-1, 0, 1, 2, 3, 4, 5, 6, 7, 8, 9, most - 1, most, most + 1, math.MinInt, math.MaxInt} {
		if n := s.Stream(key); len(n) > 0 || s.Retired(key) {
			fmt.Fprintf(&b, "%d: %x, retired %v\n", key, n, s.Retired(key))
		}
	}
	return b.String()
}

// held is the record of any bytes.
func held(p []byte) []byte {
	b, e := frame.Encode(p)
	if e != api.OK {
		panic(e)
	}
	return b
}

func num(v int) []byte {
	var w octet.Writer
	w.Num(v)
	return w.Out()
}

func join(parts ...[]byte) []byte { return bytes.Join(parts, nil) }

// put is an entry that lays a record, gone one that retires a stream, as the document says them.
func put(key int, p string) []byte { return join([]byte{1}, num(key), []byte(p)) }
func gone(key int) []byte          { return join([]byte{2}, num(key)) }

// logOf is the bytes of a file of a log with these entries, from the number first on.
func logOf(first int, entries ...[]byte) []byte {
	var b []byte
	for i, p := range entries {
		b = append(b, held(join(num(first+i), p))...)
	}
	return b
}

func manifestOf(age int) []byte { return held(num(age)) }

// picture is all that can be told of a disk: each file, and what would be left of it.
func picture(d *disk.Disk) string {
	var b strings.Builder
	after := d.Copy()
	after.Crash(0, 0)
	for _, name := range d.Names() {
		p, _ := d.Read(name)
		q, _ := after.Read(name)
		fmt.Fprintf(&b, "%q: %x, %d last\n", name, p, len(q))
	}
	return b.String()
}

// burnt tells that the fuse is burnt, and not only lit.
func burnt(d *disk.Disk) bool { return d.Sync("no such file") == api.ErrDead }

type file struct {
	name string
	data []byte
}

// laidOut is a disk with these files, of which nothing lasts.
func laidOut(t *testing.T, files ...file) *disk.Disk {
	t.Helper()
	d := made(t, room)
	for _, f := range files {
		done(t, d.Write(f.name, f.data))
	}
	return d
}

// step is one of the five that a call must do.
type step struct {
	what string
	name string
	p    []byte
	n    int
}

func remove(name string) step          { return step{what: "Remove", name: name} }
func sync(name string) step            { return step{what: "Sync", name: name} }
func cut(name string, n int) step      { return step{what: "Cut", name: name, n: n} }
func write(name string, p []byte) step { return step{what: "Write", name: name, p: p} }
func rename() step                     { return step{what: "Rename", name: "manifest~"} }

func (s step) do(d *disk.Disk) api.Errno {
	switch s.what {
	case "Remove":
		return d.Remove(s.name)
	case "Cut":
		return d.Cut(s.name, s.n)
	case "Write":
		return d.Write(s.name, s.p)
	case "Rename":
		return d.Rename(s.name, "manifest")
	}
	return d.Sync(s.name)
}

// after is a copy of a disk behind these steps.
func after(t *testing.T, d *disk.Disk, steps []step) *disk.Disk {
	t.Helper()
	d = d.Copy()
	for _, s := range steps {
		done(t, s.do(d))
	}
	return d
}

func same(t *testing.T, got, want *disk.Disk) {
	t.Helper()
	if g, w := picture(got), picture(want); g != w {
		t.Fatalf("got\n%swant\n%s", g, w)
	}
}

// P7.1: without a disk, and on one without a file.
func TestOpenEmpty(t *testing.T) {
	unopened(t, nil, api.ErrArg)
	d := made(t, room)
	d.Fuse(0)
	s := opened(t, d)
	aged(t, s, 0, 0)
	if got := all(s); got != "[]\n" || len(d.Names()) != 0 {
		t.Error(got, d.Names())
	}
}

// P7.1: the manifest tells the age, and so which log is taken.
func TestOpenAge(t *testing.T) {
	for _, age := range []int{1, 2, 9, 10, 63, 64, 1 << 20, most - 1, most} {
		name := fmt.Sprintf("g%d-00000001", age)
		d := laidOut(t, file{"manifest", manifestOf(age)}, file{name, logOf(1, put(4, "a"), put(4, "b"))})
		want := after(t, d, []step{sync(name)})
		s := opened(t, d)
		aged(t, s, age, 0)
		if got := all(s); got != "[4]\n4: [61 62], retired false\n" {
			t.Error(age, got)
		}
		same(t, d, want)
		appended(t, s, 4, "c", 3)
		if got, _ := d.Read(name); !bytes.Equal(got, logOf(1, put(4, "a"), put(4, "b"), put(4, "c"))) {
			t.Errorf("%d: got %x", age, got)
		}
	}
}

// P7.1: what is no manifest is refused ahead of all that is Removed.
func TestOpenManifestWrong(t *testing.T) {
	good := manifestOf(300)
	wrong := [][]byte{nil, {0}, join(good, good), join(good, []byte{0}), join(good, good[:5]), join([]byte{0}, good), held(nil),
		manifestOf(0), manifestOf(-1), manifestOf(most + 1), manifestOf(math.MaxInt), manifestOf(math.MinInt), manifestOf(-most),
		held([]byte{0x82, 0x00}), held([]byte{0x80}), held(bytes.Repeat([]byte{0x82}, 11)), held(join(num(1), []byte{0})), held(join(num(1), num(1)))}
	for n := range good {
		wrong = append(wrong, good[:n])
		turned := bytes.Clone(good)
		turned[n] ^= 0x10
		wrong = append(wrong, turned)
	}
	for _, b := range wrong {
		for _, name := range []string{"g0-00000001", "g1-00000001", "g300-00000001", "manifest~"} {
			d := laidOut(t, file{"manifest", b}, file{name, logOf(1, put(4, "a"))})
			was := d.Copy()
			unopened(t, d, api.ErrForm)
			same(t, d, was)
		}
	}
}

// strangers are files that stay, whatever the age is.
func strangers() []string {
	return []string{"G0-00000001", "manifest ", "manifest~~", "manifes", "manifest~0", "xg0-00000001", " g", "h", "f", "0-00000001", "Manifest~", "~", "\xff"}
}

// leftovers are files that begin with g, none of them of a log of the age 3.
func leftovers() []string {
	return []string{"g", "g-", "g-00000001", "g0-00000001", "g03-00000001", "g2-00000001", "g3", "g3-", "g3-0000000", "g3-0000000a", "g3-0000001", "g3-000000001",
		"g3-00000001 ", "g3-00000001~", "g3-+0000001", "g3-0000.001", "g300000001", "g3_00000001", "g4-00000001", "g33-00000001", "gone", "g\xff", "g 3-00000001", "gg3-00000001",
		"g" + strings.Repeat("x", 63)}
}

// P7.1: all files that begin with g and are of no use, and manifest~, are Removed by names, and no others; a fuse tells each step.
func TestOpenRemoves(t *testing.T) {
	files := []file{{"manifest", manifestOf(3)}, {"manifest~", manifestOf(4)}, {"g3-00000003", logOf(3, gone(7))}, {"g3-00000001", logOf(1, put(7, "x"), put(8, "y"))}}
	for i, name := range slices.Concat(leftovers(), strangers()) {
		files = append(files, file{name, logOf(i, put(i, "z"))})
	}
	whole := laidOut(t, files...)
	unused := append(leftovers(), "manifest~")
	slices.Sort(unused)
	var steps []step
	for _, name := range unused {
		steps = append(steps, remove(name))
	}
	steps = append(steps, sync("g3-00000001"), sync("g3-00000003"))
	for k := range steps {
		d := whole.Copy()
		d.Fuse(k)
		unopened(t, d, api.ErrDead)
		same(t, d, after(t, whole, steps[:k]))
	}
	d := whole.Copy()
	d.Fuse(len(steps))
	s := opened(t, d)
	same(t, d, after(t, whole, steps))
	aged(t, s, 3, 1)
	if got := all(s); got != "[8]\n7: [], retired true\n8: [79], retired false\n" || !burnt(d) {
		t.Error(got, burnt(d))
	}
}

// P7.1: the same without a manifest: the log of the age 0 is kept.
func TestOpenRemovesAgeNought(t *testing.T) {
	whole := laidOut(t, file{"g0-00000001", logOf(1, put(7, "x"))}, file{"g1-00000001", logOf(1, put(7, "x"))}, file{"g00-00000001", nil}, file{"manifest~", manifestOf(1)}, file{"h", nil})
	steps := []step{remove("g00-00000001"), remove("g1-00000001"), remove("manifest~"), sync("g0-00000001")}
	d := whole.Copy()
	d.Fuse(len(steps))
	s := opened(t, d)
	same(t, d, after(t, whole, steps))
	aged(t, s, 0, 0)
	d.Fuse(-1)
	appended(t, s, 7, "y", 2)
}

// P7.1: a log that is torn ends there, and what is Removed goes ahead of that.
func TestOpenTornLog(t *testing.T) {
	whole := laidOut(t, file{"g0-00000001", join(logOf(1, put(1, "a"), put(2, "b")), []byte("torn"))}, file{"g0-00000003", logOf(3, gone(1))}, file{"g1-00000001", nil}, file{"manifest~", nil})
	steps := []step{remove("g1-00000001"), remove("manifest~"), remove("g0-00000003"), cut("g0-00000001", len(logOf(1, put(1, "a"), put(2, "b")))), sync("g0-00000001")}
	for k := range steps {
		d := whole.Copy()
		d.Fuse(k)
		unopened(t, d, api.ErrDead)
		same(t, d, after(t, whole, steps[:k]))
	}
	d := whole.Copy()
	s := opened(t, d)
	same(t, d, after(t, whole, steps))
	if got := all(s); got != "[1 2]\n1: [61], retired false\n2: [62], retired false\n" {
		t.Error(got)
	}
}

// P7.1: what the entries of a log make, in the age 0 and above.
func TestOpenEntries(t *testing.T) {
	for _, c := range []struct {
		name    string
		entries [][]byte
		elder   string // what it makes in the age 0; nothing: ErrForm
		later   string // what it makes above
		waste   int
	}{
		{"a record", [][]byte{put(5, "a")}, "[5]\n5: [61], retired false\n", "[5]\n5: [61], retired false\n", 0},
		{"records of nothing", [][]byte{put(0, ""), put(0, "")}, "[0]\n0: [ ], retired false\n", "[0]\n0: [ ], retired false\n", 0},
		{"the greatest key", [][]byte{put(most, "\x01\x02")}, fmt.Sprintf("[%d]\n%[1]d: [0102], retired false\n", most), fmt.Sprintf("[%d]\n%[1]d: [0102], retired false\n", most), 0},
		{"retired", [][]byte{put(5, "a"), put(5, "b"), put(3, "c"), gone(5)}, "[3]\n3: [63], retired false\n5: [], retired true\n", "[3]\n3: [63], retired false\n5: [], retired true\n", 2},
		{"retired without a record", [][]byte{gone(5)}, "", "[]\n5: [], retired true\n", 0},
		{"retired without a record, twice", [][]byte{gone(5), gone(5)}, "", "", 0},
		{"retired without a record, beside another one", [][]byte{put(4, "a"), gone(5), gone(4)}, "", "[]\n4: [], retired true\n5: [], retired true\n", 1},
		{"retired twice", [][]byte{put(5, "a"), gone(5), gone(5)}, "", "", 0},
		{"a record behind it", [][]byte{put(5, "a"), gone(5), put(5, "b")}, "", "", 0},
		{"a record behind it, without one ahead", [][]byte{gone(5), put(5, "b")}, "", "", 0},
		{"nothing", [][]byte{nil}, "", "", 0},
		{"no key", [][]byte{{1}}, "", "", 0},
		{"no key to retire", [][]byte{put(0, "a"), {2}}, "", "", 0},
		{"a kind of 0", [][]byte{{0, 10}}, "", "", 0},
		{"a kind of 3", [][]byte{{3, 10}}, "", "", 0},
		{"a kind of 255", [][]byte{{255, 10}}, "", "", 0},
		{"a kind of 129", [][]byte{{129, 10}}, "", "", 0},
		{"a key below 0", [][]byte{put(-1, "a")}, "", "", 0},
		{"a key too great", [][]byte{put(most+1, "a")}, "", "", 0},
		{"the greatest number", [][]byte{put(math.MaxInt, "a")}, "", "", 0},
		{"retired below 0", [][]byte{gone(-1)}, "", "", 0},
		{"retired too great", [][]byte{gone(most + 1)}, "", "", 0},
		{"the greatest retired", [][]byte{put(most, ""), gone(most)}, fmt.Sprintf("[]\n%d: [], retired true\n", most), fmt.Sprintf("[]\n%d: [], retired true\n", most), 1},
		{"a key that does not end", [][]byte{{1, 0x80}}, "", "", 0},
		{"a key with a nought too many", [][]byte{{1, 0x82, 0x00, 'a'}}, "", "", 0},
		{"bytes behind a retired one", [][]byte{put(5, "a"), append(gone(5), 0)}, "", "", 0},
		{"wrong at the end", [][]byte{put(5, "a"), put(6, "b"), {9}}, "", "", 0},
	} {
		for age, want := range []string{c.elder, c.later} {
			name := fmt.Sprintf("g%d-00000001", age)
			d := laidOut(t, file{name, logOf(1, c.entries...)})
			if age > 0 {
				done(t, d.Write("manifest", manifestOf(age)))
			}
			wanted := after(t, d, []step{sync(name)})
			s, e := store.Open(d)
			same(t, d, wanted)
			if want == "" {
				if s != nil || e != api.ErrForm {
					t.Errorf("%s, age %d: got %v, %v, want ErrForm", c.name, age, s, e)
				}
				continue
			}
			if e != api.OK || all(s) != want {
				t.Errorf("%s, age %d: got %v, %v, want %v", c.name, age, all(s), e, want)
			}
			aged(t, s, age, c.waste)
		}
	}
}

// P7.1: entries in several files of a log.
func TestOpenManyFiles(t *testing.T) {
	d := laidOut(t, file{"g0-00000001", logOf(1, put(1, "a"))}, file{"g0-00000002", logOf(2, put(1, "b"), put(2, "c"))}, file{"g0-00000004", logOf(4, gone(2), put(1, "d"))})
	s := opened(t, d)
	if got := all(s); got != "[1]\n1: [61 62 64], retired false\n2: [], retired true\n" {
		t.Error(got)
	}
	aged(t, s, 0, 1)
}

// P7.2: keys that are none, and those at the edges.
func TestAppendKeys(t *testing.T) {
	d := made(t, room)
	s := opened(t, d)
	for _, key := range []int{-1, most + 1, math.MinInt, math.MaxInt, -most} {
		refused(t, s, key, nil, api.ErrArg)
		refused(t, s, key, make([]byte, longest+1), api.ErrArg)
	}
	if len(d.Names()) != 0 {
		t.Error(d.Names())
	}
	appended(t, s, 0, "a", 1)
	appended(t, s, most, "b", 1)
	appended(t, s, 0, "c", 2)
	if got, want := all(s), fmt.Sprintf("[0 %d]\n0: [61 63], retired false\n%[1]d: [62], retired false\n", most); got != want {
		t.Errorf("got %s, want %s", got, want)
	}
	if got, _ := d.Read("g0-00000001"); !bytes.Equal(got, logOf(1, put(0, "a"), put(most, "b"), put(0, "c"))) {
		t.Errorf("got %x", got)
	}
}

// P7.2: records of nothing, of the most bytes, and of one more.
func TestAppendLong(t *testing.T) {
	d := made(t, room)
	s := opened(t, d)
	for _, size := range []int{longest + 1, 1 << 16, 1 << 18} {
		refused(t, s, 1, make([]byte, size), api.ErrLong)
	}
	aged(t, s, 0, 0)
	if len(s.Keys()) != 0 || len(d.Names()) != 0 {
		t.Error(s.Keys(), d.Names())
	}
	sizes := []int{longest, 0, longest - 1, 1, longest}
	for i, size := range sizes {
		appended(t, s, most, strings.Repeat("x", size), i+1)
	}
	for _, s := range []*store.Store{s, opened(t, d)} {
		for i, p := range s.Stream(most) {
			if string(p) != strings.Repeat("x", sizes[i]) {
				t.Errorf("%d: got %d bytes, want %d", i, len(p), sizes[i])
			}
		}
	}
}

// P7.2: which error is first where several hold.
func TestAppendOrder(t *testing.T) {
	d := made(t, room)
	s := opened(t, d)
	appended(t, s, 5, "a", 1)
	done(t, s.Retire(5))
	long := make([]byte, longest+1)
	d.Fuse(0)
	refused(t, s, -1, long, api.ErrArg)
	refused(t, s, 5, long, api.ErrHas)
	refused(t, s, 5, nil, api.ErrHas)
	refused(t, s, 6, long, api.ErrLong)
	erred(t, s.Retire(5), api.ErrNone)
	erred(t, s.Retire(6), api.ErrNone)
	d.Fuse(-1)
	appended(t, s, 6, "", 1) // none of them asked the log
	d.Fuse(0)
	refused(t, s, 6, nil, api.ErrDead)
	d.Fuse(-1)
	refused(t, s, 6, nil, api.ErrDead) // the log is dead
	refused(t, s, -1, nil, api.ErrArg)
	refused(t, s, 5, long, api.ErrHas)
	refused(t, s, 6, long, api.ErrLong)
	erred(t, s.Retire(6), api.ErrDead)
	erred(t, s.Retire(5), api.ErrNone)
	erred(t, s.Sync(), api.ErrDead)
	if got := all(s); got != "[6]\n5: [], retired true\n6: [], retired false\n" {
		t.Errorf("%q", got)
	}
}

// P7.2: Retire of what is there, and of what is not.
func TestRetire(t *testing.T) {
	d := made(t, room)
	s := opened(t, d)
	for _, key := range []int{-1, 0, 5, most, most + 1, math.MinInt, math.MaxInt} {
		erred(t, s.Retire(key), api.ErrNone)
		if s.Retired(key) {
			t.Error(key)
		}
	}
	if len(d.Names()) != 0 {
		t.Error(d.Names())
	}
	appended(t, s, 5, "", 1)
	appended(t, s, 3, "b", 1)
	appended(t, s, 5, "a", 2)
	done(t, s.Retire(5))
	erred(t, s.Retire(5), api.ErrNone)
	refused(t, s, 5, []byte("c"), api.ErrHas)
	aged(t, s, 0, 2)
	appended(t, s, 3, "c", 2)
	want := "[3]\n3: [62 63], retired false\n5: [], retired true\n"
	if got := all(s); got != want {
		t.Error(got)
	}
	if got, _ := d.Read("g0-00000001"); !bytes.Equal(got, logOf(1, put(5, ""), put(3, "b"), put(5, "a"), gone(5), put(3, "c"))) {
		t.Errorf("got %x", got)
	}
	again := opened(t, d)
	if got := all(again); got != want {
		t.Error(got)
	}
	aged(t, again, 0, 2)
	erred(t, again.Retire(5), api.ErrNone)
	refused(t, again, 5, nil, api.ErrHas)
}

// P7.2: what is refused by the log is not done.
func TestLogRefuses(t *testing.T) {
	d := made(t, 80)
	s := opened(t, d)
	appended(t, s, 1, "a", 1)
	appended(t, s, 1, "b", 2)
	appended(t, s, 2, "c", 1)
	was, twin := all(s), d.Copy()
	refused(t, s, 1, make([]byte, 60), api.ErrFull)
	refused(t, s, 3, make([]byte, 60), api.ErrFull)
	done(t, twin.Write("g", make([]byte, 80-d.Used())))
	done(t, d.Write("g", make([]byte, 80-d.Used())))
	erred(t, s.Retire(1), api.ErrFull)
	same(t, d, twin)
	if all(s) != was {
		t.Error(all(s))
	}
	aged(t, s, 0, 0)
	done(t, d.Remove("g"))
	done(t, s.Retire(1))
	appended(t, s, 2, "d", 2)
	done(t, s.Sync())
	d.Crash(0, 0)
	if got := all(opened(t, d)); got != all(s) {
		t.Error(got, all(s))
	}
	d.Fuse(0)
	erred(t, s.Retire(2), api.ErrDead)
	if s.Retired(2) || len(s.Stream(2)) != 2 {
		t.Error(all(s))
	}
}

// P7.2: Sync is the log's: one step, and none if all lasts.
func TestSync(t *testing.T) {
	d := made(t, room)
	s := opened(t, d)
	d.Fuse(0)
	done(t, s.Sync())
	d.Fuse(2)
	appended(t, s, 1, "a", 1)
	done(t, s.Sync())
	done(t, s.Sync())
	if !burnt(d) {
		t.Error("nothing was Synced")
	}
	d.Fuse(-1)
	appended(t, s, 1, "b", 2)
	lost := d.Copy()
	lost.Crash(0, 0)
	if got := opened(t, lost).Stream(1); len(got) != 1 {
		t.Errorf("%x", got)
	}
	d.Fuse(0)
	erred(t, s.Sync(), api.ErrDead)
	d.Fuse(-1)
	erred(t, s.Sync(), api.ErrDead)
	refused(t, s, 1, nil, api.ErrDead)
}

// P7.2: a record goes to a new file of the log where that is due, with the log's Sync ahead.
func TestAppendFiles(t *testing.T) {
	d := made(t, room)
	s := opened(t, d)
	big := strings.Repeat("x", api.SegBytes)
	appended(t, s, 1, big, 1)
	d.Fuse(2)
	appended(t, s, 1, "a", 2)
	if !slices.Equal(d.Names(), []string{"g0-00000001", "g0-00000002"}) || !burnt(d) {
		t.Error(d.Names(), burnt(d))
	}
	d.Crash(0, 0)
	if got := opened(t, d).Stream(1); len(got) != 1 || string(got[0]) != big {
		t.Errorf("got %x", got)
	}
}

// P7.3: keys rise, whatever order they came in, and those without a record are none.
func TestKeys(t *testing.T) {
	d := made(t, room)
	s := opened(t, d)
	var want []int
	for i := range 300 {
		key := i * 7919 % 1009 * 1_000_003
		appended(t, s, key, fmt.Sprint(key), 1)
		want = append(want, key)
	}
	slices.Sort(want)
	if got := s.Keys(); !slices.Equal(got, want) {
		t.Errorf("got %v, want %v", got, want)
	}
	for i, key := range want {
		if got := s.Stream(key); len(got) != 1 || string(got[0]) != fmt.Sprint(key) {
			t.Fatal(key, got)
		}
		if i%2 == 0 {
			done(t, s.Retire(key))
		}
		if s.Retired(key) != (i%2 == 0) {
			t.Fatal(key)
		}
	}
	var left []int
	for i, key := range want {
		if i%2 == 1 {
			left = append(left, key)
		}
	}
	if got := s.Keys(); !slices.Equal(got, left) {
		t.Errorf("got %v, want %v", got, left)
	}
	if got := opened(t, d).Keys(); !slices.Equal(got, left) {
		t.Errorf("got %v, want %v", got, left)
	}
}

// P7.3: the waste is how many entries fewer the log has behind a Compact.
func TestWaste(t *testing.T) {
	d := made(t, room)
	s := opened(t, d)
	entries, wasted := 0, 0
	for age := range 6 {
		for i := range 9 {
			key := age*10 + i
			for n := range i + 1 {
				appended(t, s, key, "x", n+1)
				entries++
			}
			if i%3 == age%3 {
				done(t, s.Retire(key))
				entries++
				wasted += i + 1
			}
			aged(t, s, age, wasted)
			aged(t, opened(t, d.Copy()), age, wasted)
		}
		if got := countEntries(d); got != entries {
			t.Fatalf("got %d entries, want %d", got, entries)
		}
		done(t, s.Compact())
		entries, wasted = entries-wasted, 0
		if got := countEntries(d); got != entries {
			t.Fatalf("behind Compact: got %d entries, want %d", got, entries)
		}
		aged(t, s, age+1, 0)
	}
}

// countEntries is how many entries the files of a disk's logs have.
func countEntries(d *disk.Disk) int {
	n := 0
	for _, name := range d.Names() {
		if strings.HasPrefix(name, "g") {
			b, _ := d.Read(name)
			records, _ := frame.Scan(b)
			n += len(records)
		}
	}
	return n
}
