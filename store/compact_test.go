package store_test

import (
	"bytes"
	"fmt"
	"slices"
	"strings"
	"testing"

	"gauntlet/api"
	"gauntlet/disk"
	"gauntlet/store"
)

// sceneRoom is room for the greatest scene and what is written anew of it, and little more: a crowded disk is filled up to it.
const sceneRoom = 1 << 13

// scene is a store that is to be written anew, and the entries that must be left of it, in order.
type scene struct {
	name  string
	make  func(t *testing.T, d *disk.Disk) *store.Store
	files []file // laid beside it
	left  [][]byte
}

// lived is a store behind some calls: a text "5 abc" is Append, "5" Retire, "!" Compact, "." Sync.
func lived(calls ...string) func(t *testing.T, d *disk.Disk) *store.Store {
	return func(t *testing.T, d *disk.Disk) *store.Store {
		t.Helper()
		s := opened(t, d)
		for _, c := range calls {
			done(t, call(s, c))
		}
		return s
	}
}

func call(s *store.Store, c string) api.Errno {
	switch c {
	case "!":
		return s.Compact()
	case ".":
		return s.Sync()
	}
	word, p, appends := strings.Cut(c, " ")
	key := 0
	fmt.Sscan(word, &key)
	if !appends {
		return s.Retire(key)
	}
	_, e := s.Append(key, []byte(p))
	return e
}

// manyCalls are enough of them for several files of a log; some streams are retired.
func manyCalls() (calls []string, left [][]byte) {
	for i := range 60 {
		calls = append(calls, fmt.Sprint(i%6, " ", strings.Repeat("x", i)))
	}
	calls = append(calls, "2", "5")
	for key := range 6 {
		if key == 2 || key == 5 {
			left = append(left, gone(key))
			continue
		}
		for i := key; i < 60; i += 6 {
			left = append(left, put(key, strings.Repeat("x", i)))
		}
	}
	return calls, left
}

func scenes() []scene {
	many, left := manyCalls()
	big := strings.Repeat("y", api.SegBytes)
	return []scene{
		{"an empty one", lived(), nil, nil},
		{"one record", lived("7 a"), nil, [][]byte{put(7, "a")}},
		{"the document's example", lived("5 a", "3 b", "5"), nil, [][]byte{put(3, "b"), gone(5)}},
		{"records by keys", lived("9 a", "1 b", "9 c", ".", "0 ", "1 d"), nil, [][]byte{put(0, ""), put(1, "b"), put(1, "d"), put(9, "a"), put(9, "c")}},
		{"retired alone", lived("9 a", "9", "8 a", "8"), nil, [][]byte{gone(8), gone(9)}},
		{"retired among others", lived("4 a", "3 b", "2 c", "1 d", "3", "1"), nil, [][]byte{gone(1), put(2, "c"), gone(3), put(4, "a")}},
		{"in the second age", lived("4 a", "3 b", "4", "!", "3 c", "5 d", "5", "5000000000 e"), nil, [][]byte{put(3, "b"), put(3, "c"), gone(4), gone(5), put(5_000_000_000, "e")}},
		{"in the tenth age", lived("4 a", "3 b", "4", "!", "!", "!", "!", "!", "!", "!", "!", "!", "3 c"), nil, [][]byte{put(3, "b"), put(3, "c"), gone(4)}},
		{"files of just SegBytes", lived("1 "+big[15:], "2 b", "1 "+big), nil, [][]byte{put(1, big[15:]), put(1, big), put(2, "b")}},
		{"many files", lived(many...), nil, left},
		{"many files, again", lived(append(many, "!", "0 z", "1")...), nil, slices.Concat(left[:10], [][]byte{put(0, "z"), gone(1)}, left[20:])},
		{"files of the next age lie there", lived("1 a", "1", "2 b"), []file{{"g1-00000001", logOf(1, put(1, "a"))}, {"g1-99999999", nil}, {"g1-00000000", []byte("x")}, {"g1-1", nil}, {"g10-00000001", nil}, {"g2-00000001", nil}, {"h", nil}}, [][]byte{gone(1), put(2, "b")}},
		{"a new manifest lies there", lived("1 a"), []file{{"manifest~", manifestOf(7)}, {"manifest~~", nil}}, [][]byte{put(1, "a")}},
		{"all of that lies there", lived("1 a", "!", "0 "+big, "1"), []file{{"manifest~", nil}, {"g2-00000003", logOf(1, put(1, "a"))}, {"g2-00000002", nil}, {"g3-00000001", nil}}, [][]byte{put(0, big), gone(1)}},
	}
}

func (c scene) set(t *testing.T) (*disk.Disk, *store.Store) {
	t.Helper()
	d := made(t, sceneRoom)
	s := c.make(t, d)
	for _, f := range c.files {
		done(t, d.Write(f.name, f.data))
	}
	return d, s
}

// filesOf is the files of the log of an age.
func filesOf(d *disk.Disk, age int) []string {
	var names []string
	for _, name := range d.Names() {
		if number, has := strings.CutPrefix(name, fmt.Sprint("g", age, "-")); has && len(number) == 8 {
			names = append(names, name)
		}
	}
	return names
}

func removes(names []string) []step {
	var steps []step
	for _, name := range names {
		steps = append(steps, remove(name))
	}
	return steps
}

// ahead are the steps of Compact up to the Rename, as the documents of the store and of its log say them.
func ahead(d *disk.Disk, age int, left [][]byte) []step {
	steps := removes(filesOf(d, age))
	name, size := "", 0
	for i, p := range left {
		b := logOf(i+1, p)
		if name == "" || size >= api.SegBytes {
			if name != "" {
				steps = append(steps, sync(name))
			}
			name, size = fmt.Sprintf("g%d-%08d", age, i+1), 0
		}
		steps = append(steps, write(name, b))
		size += len(b)
	}
	if name != "" {
		steps = append(steps, sync(name))
	}
	if _, e := d.Read("manifest~"); e == api.OK {
		steps = append(steps, remove("manifest~"))
	}
	return append(steps, write("manifest~", manifestOf(age)), sync("manifest~"))
}

// isDead tells that a store is dead for good, and that it still tells what it has.
func isDead(t *testing.T, s *store.Store, d *disk.Disk, was string) {
	t.Helper()
	d.Fuse(-1)
	disk := d.Copy()
	for _, key := range []int{-1, 0, 1, 2, 3, 4, 5, 7, 8, 9, most, most + 1} {
		refused(t, s, key, nil, api.ErrDead)
		refused(t, s, key, make([]byte, longest+1), api.ErrDead)
		erred(t, s.Retire(key), api.ErrDead)
	}
	erred(t, s.Sync(), api.ErrDead)
	erred(t, s.Compact(), api.ErrDead)
	same(t, d, disk)
	if got := all(s); got != was {
		t.Fatalf("got %s, want %s", got, was)
	}
}

// P7.4: what Compact does, step by step: with a fuse each of them is seen, and the store's death at each.
func TestCompactSteps(t *testing.T) {
	for _, c := range scenes() {
		t.Run(c.name, func(t *testing.T) {
			d, s := c.set(t)
			age, waste := s.Age()
			steps := append(ahead(d, age+1, c.left), rename())
			renamed := len(steps)
			steps = append(steps, removes(filesOf(d, age))...)
			for k := range steps {
				d, s := c.set(t)
				was, before := all(s), d.Copy()
				d.Fuse(k)
				erred(t, s.Compact(), api.ErrDead)
				same(t, d, after(t, before, steps[:k]))
				if k < renamed {
					aged(t, s, age, waste)
				} else {
					aged(t, s, age+1, 0)
				}
				isDead(t, s, d, was)
				if got := all(opened(t, d)); got != was {
					t.Fatalf("behind %d steps: got %s, want %s", k, got, was)
				}
			}
			was, before := all(s), d.Copy()
			d.Fuse(len(steps))
			done(t, s.Compact())
			if !burnt(d) {
				t.Error("fewer steps than there must be")
			}
			same(t, d, after(t, before, steps))
			aged(t, s, age+1, 0)
			if got := all(s); got != was {
				t.Fatalf("got %s, want %s", got, was)
			}
		})
	}
}

// P7.4: behind Compact the store goes on in the new log, and all that it had lasts.
func TestCompactGoesOn(t *testing.T) {
	for _, c := range scenes() {
		d, s := c.set(t)
		age, _ := s.Age()
		want := all(s)
		done(t, s.Compact())
		lost := d.Copy()
		lost.Crash(0, 1)
		if got := all(opened(t, lost)); got != want {
			t.Errorf("%s: got %s, want %s", c.name, got, want)
		}
		had := len(s.Stream(0))
		appended(t, s, 0, "new", had+1)
		done(t, s.Sync())
		aged(t, s, age+1, 0)
		last := filesOf(d, age+1)
		b, _ := d.Read(last[len(last)-1])
		if !bytes.HasSuffix(b, logOf(len(c.left)+1, put(0, "new"))) {
			t.Errorf("%s: got %x", c.name, b)
		}
		done(t, s.Retire(0))
		aged(t, s, age+1, had+1)
		aged(t, opened(t, d), age+1, had+1)
	}
}

// full is the steps that a disk does of these up to the first that it has no room for, and then all that takes them back.
func full(t *testing.T, d *disk.Disk, age int, steps []step) (done []step, refused bool) {
	t.Helper()
	d = d.Copy()
	for _, s := range steps {
		e := s.do(d)
		if e == api.OK {
			done = append(done, s)
			continue
		}
		erred(t, e, api.ErrFull)
		if _, e := d.Read("manifest~"); e == api.OK {
			done = append(done, remove("manifest~"))
		}
		return append(done, removes(filesOf(d, age))...), true
	}
	return done, false
}

// crowded is a scene of which the disk has room for so many bytes more, or for so many files more.
func (c scene) crowded(t *testing.T, bytes, files int) (*disk.Disk, *store.Store) {
	t.Helper()
	d, s := c.set(t)
	if bytes >= 0 {
		done(t, d.Write("z", make([]byte, sceneRoom-d.Used()-bytes)))
	}
	if files >= 0 {
		for i := range api.MaxFiles - len(d.Names()) - files {
			done(t, d.Write(fmt.Sprint("z", i), nil))
		}
	}
	return d, s
}

// fullness tells what a Compact without room does: what it takes back, and that the store goes on; with a fuse on that way it is dead. It tells whether there was room.
func (c scene) fullness(t *testing.T, bytes, files int) (fits bool) {
	t.Helper()
	d, s := c.crowded(t, bytes, files)
	age, waste := s.Age()
	steps, refused := full(t, d, age+1, ahead(d, age+1, c.left))
	if !refused {
		done(t, s.Compact())
		return true
	}
	was, before := all(s), d.Copy()
	erred(t, s.Compact(), api.ErrFull)
	same(t, d, after(t, before, steps))
	aged(t, s, age, waste)
	if got := all(s); got != was {
		t.Fatalf("got %s, want %s", got, was)
	}
	done(t, s.Sync())
	for _, name := range d.Names() {
		if strings.HasPrefix(name, "z") {
			done(t, d.Remove(name))
		}
	}
	had := len(s.Stream(0))
	appended(t, s, 0, "new", had+1)
	done(t, s.Compact())
	aged(t, s, age+1, 0)
	for k := range steps {
		d, s := c.crowded(t, bytes, files)
		d.Fuse(k)
		erred(t, s.Compact(), api.ErrDead)
		same(t, d, after(t, before, steps[:k]))
		aged(t, s, age, waste)
		isDead(t, s, d, was)
		if got := all(opened(t, d)); got != was {
			t.Fatalf("got %s, want %s", got, was)
		}
	}
	return false
}

// P7.4: ErrFull at each call ahead of the Rename, by bytes.
func TestCompactFull(t *testing.T) {
	for _, c := range scenes() {
		t.Run(c.name, func(t *testing.T) {
			free := 0
			for !c.fullness(t, free, -1) {
				free += 1 + free/40
			}
			if free < 12 {
				t.Error("it was never full")
			}
		})
	}
}

// P7.4: ErrFull at each new file, by the number of files.
func TestCompactMaxFiles(t *testing.T) {
	for _, c := range scenes() {
		if c.name != "files of just SegBytes" && len(c.files) == 0 && c.name != "an empty one" {
			continue
		}
		t.Run(c.name, func(t *testing.T) {
			places := 0
			for !c.fullness(t, -1, places) {
				places++
			}
			if places < 1 && len(c.files) == 0 {
				t.Error("it was never full")
			}
		})
	}
}

// P7.4: an age of 2^40 is the last one.
func TestCompactOldest(t *testing.T) {
	d := laidOut(t, file{"manifest", manifestOf(most - 1)}, file{fmt.Sprintf("g%d-00000001", most-1), logOf(1, put(1, "a"), gone(2), gone(1))})
	s := opened(t, d)
	aged(t, s, most-1, 1)
	done(t, s.Compact())
	aged(t, s, most, 0)
	appended(t, s, 3, "b", 1)
	done(t, s.Retire(3))
	for _, s := range []*store.Store{s, opened(t, d)} {
		disk := d.Copy()
		for range 2 {
			erred(t, s.Compact(), api.ErrArg)
			aged(t, s, most, 1)
		}
		same(t, d, disk)
		d.Fuse(0)
		erred(t, s.Compact(), api.ErrArg)
		d.Fuse(-1)
	}
	appended(t, s, 4, "c", 1) // it is not dead
	done(t, s.Sync())
	if got, _ := d.Read(fmt.Sprintf("g%d-00000001", most)); !bytes.Equal(got, logOf(1, gone(1), gone(2), put(3, "b"), gone(3), put(4, "c"))) {
		t.Errorf("got %x", got)
	}
}

// P7.4: a record of the most bytes is written anew, and so is one that another hand made longer.
func TestCompactLong(t *testing.T) {
	longer := strings.Repeat("l", api.MaxFrame-10-1-len(num(most)))
	d := laidOut(t, file{"g0-00000001", logOf(1, put(most, longer))})
	s := opened(t, d)
	long := strings.Repeat("m", longest)
	appended(t, s, most, long, 2)
	done(t, s.Compact())
	for _, s := range []*store.Store{s, opened(t, d)} {
		if got := s.Stream(most); len(got) != 2 || string(got[0]) != longer || string(got[1]) != long {
			t.Error(len(got))
		}
	}
}

// The document's example.
func TestExample(t *testing.T) {
	d := made(t, room)
	s := opened(t, d)
	appended(t, s, 5, "a", 1)
	appended(t, s, 3, "b", 1)
	done(t, s.Retire(5))
	done(t, s.Compact())
	if !slices.Equal(s.Keys(), []int{3}) || !s.Retired(5) {
		t.Error(all(s))
	}
	aged(t, s, 1, 0)
}
