package store_test

import (
	"bytes"
	"fmt"
	"slices"
	"testing"

	"gauntlet/api"
	"gauntlet/store"
)

// P7.6: what is handed in is neither changed nor kept, nor is its spare room.
func TestHandedIn(t *testing.T) {
	d := made(t, room)
	s := opened(t, d)
	var want [][]byte
	for n := range 60 {
		p := bytes.Repeat([]byte{byte(n + 1)}, n+20)
		was := bytes.Clone(p)
		if got, e := s.Append(1, p[:n]); got != n+1 || e != api.OK {
			t.Fatal(got, e)
		}
		if !bytes.Equal(p, was) {
			t.Fatalf("%x was changed to %x", was, p)
		}
		clear(p)
		want = append(want, was[:n])
		if n == 30 {
			done(t, s.Compact())
		}
	}
	for _, s := range []*store.Store{s, opened(t, d)} {
		if got := s.Stream(1); fmt.Sprint(got) != fmt.Sprint(want) {
			t.Errorf("got %v, want %v", got, want)
		}
	}
}

// P7.6: what is answered is new memory, spare room too.
func TestAnswered(t *testing.T) {
	d := made(t, room)
	s := opened(t, d)
	for key := range 5 {
		for n := range 4 {
			appended(t, s, key, fmt.Sprint("record ", key, n), n+1)
		}
	}
	want := all(s)
	for _, s := range []*store.Store{s, opened(t, d)} {
		for key := range 5 {
			records := s.Stream(key)
			for i, p := range records {
				next := fmt.Sprint(records[i+1:])
				clear(p[:cap(p)])
				if got := fmt.Sprint(records[i+1:]); got != next {
					t.Errorf("two records of one answer share memory: %s, %s", got, next)
				}
			}
			clear(records[:cap(records)])
		}
		keys := s.Keys()
		for i := range keys[:cap(keys)] {
			keys[:cap(keys)][i] = 77
		}
		if got := all(s); got != want {
			t.Errorf("got %s, want %s", got, want)
		}
		done(t, s.Compact())
		if got := all(s); got != want {
			t.Errorf("got %s, want %s", got, want)
		}
		if got := all(opened(t, d.Copy())); got != want {
			t.Errorf("got %s, want %s", got, want)
		}
	}
}

// P7.6: an answer stays what it is, whatever is called later.
func TestAnswersStay(t *testing.T) {
	d := made(t, room)
	s := opened(t, d)
	appended(t, s, 1, "a", 1)
	appended(t, s, 2, "b", 1)
	records, keys := s.Stream(1), s.Keys()
	appended(t, s, 1, "c", 2)
	appended(t, s, 0, "d", 1)
	done(t, s.Retire(2))
	done(t, s.Retire(1))
	done(t, s.Compact())
	if fmt.Sprintf("%s", records) != "[a]" || !slices.Equal(keys, []int{1, 2}) {
		t.Error(records, keys)
	}
}

// tells nothing: each call of a store that is none.
func nothing(t *testing.T, s *store.Store) {
	t.Helper()
	for _, key := range []int{-1, 0, 1, most, most + 1} {
		refused(t, s, key, []byte("a"), api.ErrArg)
		refused(t, s, key, make([]byte, longest+1), map[bool]api.Errno{true: api.ErrArg, false: api.ErrLong}[s == nil || key < 0 || key > most])
		if len(s.Stream(key)) != 0 || s.Retired(key) {
			t.Error(key)
		}
	}
	if len(s.Keys()) != 0 {
		t.Error(s.Keys())
	}
	aged(t, s, 0, 0)
	erred(t, s.Sync(), api.ErrArg)
}

// P7.6: a nil Store; and one that Open did not make panics no more than that.
func TestNilStore(t *testing.T) {
	var s *store.Store
	nothing(t, s)
	erred(t, s.Retire(0), api.ErrArg)
	erred(t, s.Compact(), api.ErrArg)
	s = new(store.Store)
	nothing(t, s)
	erred(t, s.Retire(0), api.ErrNone)
	erred(t, s.Compact(), api.ErrArg)
	erred(t, s.Compact(), api.ErrDead)
}

// W8: of a store that is copied as a value one goes on.
func TestCopiedStore(t *testing.T) {
	d := made(t, room)
	s := opened(t, d)
	appended(t, s, 1, "a", 1)
	done(t, s.Compact())
	c := *s
	appended(t, &c, 1, "b", 2)
	done(t, c.Retire(1))
	done(t, c.Compact())
	aged(t, &c, 2, 0)
	if got := all(opened(t, d)); got != all(&c) {
		t.Error(got)
	}
}

// W9: behind a Crash a store is used no more, but it does not panic.
func TestBehindCrash(t *testing.T) {
	for _, c := range scenes() {
		for keep := range 40 {
			d, s := c.set(t)
			d.Crash(keep, byte(keep))
			for _, name := range d.Names() {
				if keep%3 == 0 {
					done(t, d.Remove(name))
				}
			}
			for key := range 9 {
				s.Append(key, nil)
				s.Retire(key)
				s.Stream(key)
				s.Retired(key)
			}
			s.Sync()
			s.Compact()
			s.Age()
			s.Keys()
			s.Sync()
			store.Open(d)
		}
	}
}

// Two stores on two disks that were done the same tell the same, to the last byte.
func TestTwins(t *testing.T) {
	calls := script()
	d, twin := made(t, room), made(t, room)
	life(d, calls)
	life(twin, calls)
	same(t, d, twin)
}

// W5: nothing and no list are one record.
func TestNilRecord(t *testing.T) {
	d, twin := made(t, room), made(t, room)
	s, other := opened(t, d), opened(t, twin)
	s.Append(1, nil)
	other.Append(1, []byte{})
	same(t, d, twin)
	if got := all(s); got != all(other) || len(s.Stream(1)) != 1 {
		t.Error(got)
	}
}
