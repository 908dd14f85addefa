package store_test

import (
	"fmt"
	"math"
	"slices"
	"strings"
	"testing"

	"gauntlet/api"
	"gauntlet/disk"
	"gauntlet/store"
)

// plain is a store as the document tells it, without a disk.
type plain struct {
	streams map[int][]string
	retired map[int]bool
}

func newPlain() *plain { return &plain{map[int][]string{}, map[int]bool{}} }

func (m *plain) append(key int, p string) (int, api.Errno) {
	switch {
	case key < 0 || key > most:
		return 0, api.ErrArg
	case m.retired[key]:
		return 0, api.ErrHas
	case len(p) > longest:
		return 0, api.ErrLong
	}
	m.streams[key] = append(m.streams[key], p)
	return len(m.streams[key]), api.OK
}

func (m *plain) retire(key int) api.Errno {
	if len(m.streams[key]) == 0 {
		return api.ErrNone
	}
	delete(m.streams, key)
	m.retired[key] = true
	return api.OK
}

// tells is what all of a store must be.
func (m *plain) tells() string {
	var keys, asked []int
	for key := range m.streams {
		keys = append(keys, key)
		asked = append(asked, key)
	}
	for key := range m.retired {
		asked = append(asked, key)
	}
	slices.Sort(keys)
	slices.Sort(asked)
	var b strings.Builder
	fmt.Fprintln(&b, keys)
	for _, key := range asked {
		fmt.Fprintf(&b, "%d: %x, retired %v\n", key, m.streams[key], m.retired[key])
	}
	return b.String()
}

// folded is what the first calls of a list make.
func folded(calls []string) string {
	m := newPlain()
	for _, c := range calls {
		word, p, appends := strings.Cut(c, " ")
		key := 0
		fmt.Sscan(word, &key)
		if appends {
			m.append(key, p)
		} else {
			m.retire(key)
		}
	}
	return m.tells()
}

// script is a life with everything in it: several files, records of no bytes and of many, streams that are retired in each age.
func script() []string {
	var calls []string
	for i := range 40 {
		calls = append(calls, fmt.Sprint(i%4, " ", i, strings.Repeat("-", i*37%90)))
		if i%9 == 4 {
			calls = append(calls, ".")
		}
		if i == 12 || i == 20 || i == 33 {
			calls = append(calls, "5 ", "5 five", "!")
		}
		if i == 15 {
			calls = append(calls, "5", "6 six", "6", ".")
		}
		if i == 24 {
			return append(calls, "0", "!", "9 end", "8 "+strings.Repeat("8", 600), "8", "9 of all", ".", "9 but these", "9", "7 ")
		}
	}
	return calls
}

// life goes through a script until the store is dead: what was laid, and how many of that must last.
func life(d *disk.Disk, calls []string) (laid []string, lasting int) {
	s, e := store.Open(d)
	if e != api.OK {
		return nil, 0
	}
	for _, c := range calls {
		e := call(s, c)
		still := c == "!" || c == "."
		switch {
		case e == api.OK && still:
			lasting = len(laid)
		case e == api.OK:
			laid = append(laid, c)
		case e == api.ErrDead:
			return laid, lasting
		}
	}
	return laid, lasting
}

// loose is how many bytes do not last of the file of which the most do not.
func loose(d *disk.Disk) int {
	lost, most := d.Copy(), 0
	lost.Crash(0, 0)
	for _, name := range d.Names() {
		p, _ := d.Read(name)
		q, _ := lost.Read(name)
		most = max(most, len(p)-len(q))
	}
	return most
}

// folds are what the first calls of a list make, for each number of them from lasting on.
func folds(laid []string, lasting int) []string {
	var made []string
	for n := lasting; n <= len(laid); n++ {
		made = append(made, folded(laid[:n]))
	}
	return made
}

// P7.5: a Crash at each write of a script, with each choice of what it keeps, torn and not torn.
func TestCrashAnywhere(t *testing.T) {
	calls := script()
	stride := 1
	if testing.Short() {
		stride = 23
	}
	for fuse := 0; ; fuse++ {
		d := made(t, room)
		d.Fuse(fuse)
		laid, lasting := life(d, calls)
		over, may := !burnt(d), folds(laid, lasting)
		for keep := 0; keep <= loose(d); keep += stride {
			for _, tear := range []byte{0, 1, 0x80, 0xff} {
				crashed := d.Copy()
				crashed.Crash(keep, tear)
				if got := all(opened(t, crashed)); !slices.Contains(may, got) {
					t.Fatalf("fuse %d, keep %d, tear %d: got %s of %q, %d of which last", fuse, keep, tear, got, laid, lasting)
				}
			}
		}
		if over {
			return
		}
	}
}

// P7.5: a Crash within each Open that follows changes nothing more.
func TestCrashWithinOpen(t *testing.T) {
	calls := script()
	for fuse := 0; ; fuse++ {
		d := made(t, room)
		d.Fuse(fuse)
		life(d, calls)
		over := !burnt(d)
		for _, keep := range []int{0, 1, 20, loose(d) / 2, loose(d), math.MaxInt} {
			crashed := d.Copy()
			crashed.Crash(keep, byte(fuse%3))
			want := all(opened(t, crashed.Copy()))
			for k := 0; ; k++ {
				again := crashed.Copy()
				again.Fuse(k)
				s, e := store.Open(again)
				if e != api.OK {
					erred(t, e, api.ErrDead)
					again.Crash(keep, byte(k))
					s = opened(t, again)
				}
				if got := all(s); got != want {
					t.Fatalf("fuse %d, keep %d, then %d: got %s, want %s", fuse, keep, k, got, want)
				}
				if e == api.OK {
					break
				}
			}
		}
		if over {
			return
		}
	}
}

// P7.5: lives behind lives: each goes on from what was left of the one ahead, and what was left lasts.
func TestManyLives(t *testing.T) {
	for seed := range 40 {
		d := made(t, room)
		var left []string
		for turn := range 25 {
			d.Fuse((seed*31 + turn*17) % 45)
			calls := turnCalls(seed, turn)
			s, e := store.Open(d)
			laid, lasting := slices.Clone(left), len(left)
			for i := 0; i < len(calls) && e == api.OK; i++ {
				c := calls[i]
				e = call(s, c)
				switch {
				case e == api.OK && (c == "!" || c == "."):
					lasting = len(laid)
				case e == api.OK:
					laid = append(laid, c)
				case e == api.ErrNone || e == api.ErrHas:
					e = api.OK
				}
			}
			d.Crash(seed*7+turn*turn, byte(seed*turn))
			got := all(opened(t, d.Copy()))
			n := slices.Index(folds(laid, lasting), got)
			if n < 0 {
				t.Fatalf("seed %d, turn %d: got %s of %q, %d of which last", seed, turn, got, laid, lasting)
			}
			left = laid[:lasting+n]
		}
	}
}

func turnCalls(seed, turn int) []string {
	var calls []string
	x := uint32(seed*1000 + turn)
	for range 20 {
		x = x*1664525 + 1013904223
		key := int(x>>24) % 7
		switch x >> 16 % 16 {
		case 0, 1:
			calls = append(calls, ".")
		case 2:
			calls = append(calls, "!")
		case 3:
			calls = append(calls, fmt.Sprint(key))
		default:
			calls = append(calls, fmt.Sprint(key, " ", x, strings.Repeat("+", int(x>>8)%120)))
		}
	}
	return calls
}

// P7.5: Compact changes no stream, however often, with records that do not last yet.
func TestCompactChangesNothing(t *testing.T) {
	for _, c := range scenes() {
		d, s := c.set(t)
		want := all(s)
		age, _ := s.Age()
		for i := range 5 {
			done(t, s.Compact())
			aged(t, s, age+1+i, 0)
			if got := all(s); got != want {
				t.Fatalf("%s: got %s, want %s", c.name, got, want)
			}
			if got := all(opened(t, d.Copy())); got != want {
				t.Fatalf("%s: got %s, want %s", c.name, got, want)
			}
		}
	}
}

// All promises together: long rows of calls on a disk that is full at times, held against a plain store.
func TestAgainstPlain(t *testing.T) {
	full, renewed := 0, 0
	for seed := range uint32(30) {
		d := made(t, 3000)
		s, m := opened(t, d), newPlain()
		x := seed
		for turn := range 600 {
			x = x*1664525 + 1013904223
			key, size := int(x>>24)%9-1, int(x>>8)%90
			switch x >> 16 % 32 {
			case 0, 1, 2:
				e := s.Retire(key)
				if e == api.ErrFull {
					continue
				}
				erred(t, e, m.retire(key))
			case 3:
				switch e := s.Compact(); e {
				case api.OK:
					renewed++
				case api.ErrFull:
					full++
				default:
					t.Fatal(e)
				}
			case 4:
				s = opened(t, d)
			case 5:
				done(t, s.Sync())
			default:
				p := strings.Repeat(string(rune('a'+turn%26)), size)
				n, e := s.Append(key, []byte(p))
				if e == api.ErrFull {
					continue
				}
				if wantN, want := m.append(key, p); n != wantN || e != want {
					t.Fatalf("seed %d, turn %d: got %d, %v, want %d, %v", seed, turn, n, e, wantN, want)
				}
			}
			if got, want := all(s), m.tells(); got != want {
				t.Fatalf("seed %d, turn %d: got %s, want %s", seed, turn, got, want)
			}
		}
	}
	if full < 20 || renewed < 20 {
		t.Errorf("too little was tried: %d times full, %d times written anew", full, renewed)
	}
}
