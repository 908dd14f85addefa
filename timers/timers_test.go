package timers_test

import (
	"math"
	"slices"
	"testing"

	"gauntlet/api"
	"gauntlet/timers"
)

type pair struct{ id, at int }

// plain is a list that is gone through each time: what P6.3 says Timers is.
type plain []pair

func (p *plain) find(id int) int {
	for i, x := range *p {
		if x.id == id {
			return i
		}
	}
	return -1
}

func (p *plain) set(id, at int) bool {
	if i := p.find(id); i >= 0 {
		(*p)[i].at = at
		return true
	}
	if len(*p) >= api.MaxTimers {
		return false
	}
	*p = append(*p, pair{id, at})
	return true
}

func (p *plain) cancel(id int) (int, bool) {
	i := p.find(id)
	if i < 0 {
		return 0, false
	}
	at := (*p)[i].at
	*p = slices.Delete(*p, i, i+1)
	return at, true
}

func (p *plain) next() (id, at int, ok bool) {
	for _, x := range *p {
		if !ok || x.at < at || x.at == at && x.id < id {
			id, at, ok = x.id, x.at, true
		}
	}
	return id, at, ok
}

func (p *plain) due(now int) []int {
	var l []int
	for {
		id, at, ok := p.next()
		if !ok || at > now {
			return l
		}
		p.cancel(id)
		l = append(l, id)
	}
}

func filled(t *testing.T, l ...pair) *timers.Timers {
	t.Helper()
	x := timers.New()
	if x == nil {
		t.Fatal("New: nil")
	}
	for _, p := range l {
		set(t, x, p.id, p.at, true)
	}
	return x
}

func set(t *testing.T, x *timers.Timers, id, at int, want bool) {
	t.Helper()
	if ok := x.Set(id, at); ok != want {
		t.Fatalf("Set(%d, %d): got %v, want %v", id, at, ok, want)
	}
}

func cancel(t *testing.T, x *timers.Timers, id, want int, wantOK bool) {
	t.Helper()
	if at, ok := x.Cancel(id); at != want || ok != wantOK {
		t.Fatalf("Cancel(%d): got %d, %v, want %d, %v", id, at, ok, want, wantOK)
	}
}

func next(t *testing.T, x *timers.Timers, id, at int) {
	t.Helper()
	if i, a, ok := x.Next(); i != id || a != at || !ok {
		t.Fatalf("Next: got %d, %d, %v, want %d, %d, true", i, a, ok, id, at)
	}
}

func none(t *testing.T, x *timers.Timers) {
	t.Helper()
	if i, a, ok := x.Next(); i != 0 || a != 0 || ok || x.Len() != 0 {
		t.Fatalf("Next: got %d, %d, %v, Len %d, want nothing", i, a, ok, x.Len())
	}
	if l := x.Due(math.MaxInt); len(l) != 0 {
		t.Fatalf("Due: got %v, want nothing", l)
	}
}

func due(t *testing.T, x *timers.Timers, now, left int, want ...int) {
	t.Helper()
	if l := x.Due(now); !slices.Equal(l, want) {
		t.Fatalf("Due(%d): got %v, want %v", now, l, want)
	}
	size(t, x, left)
}

func size(t *testing.T, x *timers.Timers, want int) {
	t.Helper()
	if n := x.Len(); n != want {
		t.Fatalf("Len: got %d, want %d", n, want)
	}
}

// P6.1

func TestSetOfNewThings(t *testing.T) {
	x := filled(t, pair{7, 5}, pair{3, 5}, pair{9, 4})
	size(t, x, 3)
	cancel(t, x, 7, 5, true)
	cancel(t, x, 3, 5, true)
	cancel(t, x, 9, 4, true)
	none(t, x)
}

func TestSetAnew(t *testing.T) {
	for _, at := range []int{math.MinInt, -1, 1, 9, 10, 11, 19, 20, 21, 30, 31, 99, math.MaxInt} {
		for id := 1; id <= 3; id++ {
			l := plain{{1, 10}, {2, 20}, {3, 30}}
			x := filled(t, l...)
			set(t, x, id, at, true)
			size(t, x, 3)
			l.set(id, at)
			i, a, _ := l.next()
			next(t, x, i, a)
			due(t, x, math.MaxInt, 0, l.due(math.MaxInt)...)
		}
	}
}

func TestSetToEdges(t *testing.T) {
	edges := []int{math.MinInt, math.MinInt + 1, -1, 0, 1, math.MaxInt - 1, math.MaxInt}
	for _, id := range edges {
		for _, at := range edges {
			x := filled(t, pair{id, at})
			next(t, x, id, at)
			cancel(t, x, id, at, true)
			none(t, x)
		}
	}
	x := timers.New()
	for i := range edges { // each has its own time: the least id the greatest time
		set(t, x, edges[i], edges[len(edges)-1-i], true)
	}
	want := slices.Clone(edges)
	slices.Reverse(want)
	due(t, x, math.MinInt, len(edges)-1, want[0])
	due(t, x, -1, len(edges)-3, want[1:3]...)
	due(t, x, math.MaxInt-1, 1, want[3:len(want)-1]...)
	due(t, x, math.MaxInt, 0, want[len(want)-1])
}

func TestSetWithMaxTimers(t *testing.T) {
	x := timers.New()
	for i := range api.MaxTimers {
		set(t, x, i, -i, true)
		size(t, x, i+1)
	}
	for _, id := range []int{-1, api.MaxTimers, math.MinInt, math.MaxInt} {
		set(t, x, id, math.MinInt, false)
		size(t, x, api.MaxTimers)
		next(t, x, api.MaxTimers-1, 1-api.MaxTimers)
		cancel(t, x, id, 0, false)
	}
	for _, id := range []int{0, 5, api.MaxTimers - 1} { // those that are there may still be set
		set(t, x, id, -id-10000, true)
		size(t, x, api.MaxTimers)
		next(t, x, id, -id-10000)
	}
	cancel(t, x, 5, -10005, true)
	set(t, x, -1, 0, true)
	set(t, x, 5, 0, false)
	due(t, x, -10000, api.MaxTimers-2, api.MaxTimers-1, 0)
	set(t, x, 5, 1, true)
	set(t, x, 0, 1, true)
	set(t, x, api.MaxTimers, 1, false)
	size(t, x, api.MaxTimers)
}

func TestCancel(t *testing.T) {
	x := filled(t, pair{1, 10}, pair{2, 20}, pair{3, 30})
	cancel(t, x, 0, 0, false)
	cancel(t, x, 10, 0, false)
	size(t, x, 3)
	set(t, x, 2, 5, true)
	cancel(t, x, 2, 5, true)
	cancel(t, x, 2, 0, false)
	size(t, x, 2)
	due(t, x, 10, 1, 1)
	cancel(t, x, 1, 0, false)
	next(t, x, 3, 30)
	set(t, x, 1, 40, true) // what came due may be set again, and so may what was cancelled
	set(t, x, 2, 35, true)
	due(t, x, 40, 0, 3, 2, 1)
	cancel(t, x, 3, 0, false)
	none(t, x)
}

func TestCancelOfZeroTime(t *testing.T) {
	x := filled(t, pair{0, 0})
	next(t, x, 0, 0)
	cancel(t, x, 0, 0, true)
	cancel(t, x, 0, 0, false)
	none(t, x)
}

func TestCancelAtEachPlace(t *testing.T) {
	for gone := range 40 {
		var l plain
		x := timers.New()
		for i := range 40 {
			at := i * 23 % 40
			set(t, x, i, at, true)
			l.set(i, at)
		}
		at, _ := l.cancel(gone)
		cancel(t, x, gone, at, true)
		size(t, x, 39)
		due(t, x, 39, 0, l.due(39)...)
	}
}

// P6.2

func TestNext(t *testing.T) {
	x := timers.New()
	none(t, x)
	set(t, x, 5, 5, true)
	next(t, x, 5, 5)
	next(t, x, 5, 5)
	size(t, x, 1)
	set(t, x, 6, 5, true)
	next(t, x, 5, 5)
	set(t, x, 4, 5, true)
	next(t, x, 4, 5)
	set(t, x, -4, 5, true)
	next(t, x, -4, 5)
	set(t, x, 9, 4, true)
	next(t, x, 9, 4)
	set(t, x, 8, -4, true)
	next(t, x, 8, -4)
	size(t, x, 6)
	set(t, x, 8, 6, true)
	next(t, x, 9, 4)
	cancel(t, x, 9, 4, true)
	next(t, x, -4, 5)
	due(t, x, 5, 1, -4, 4, 5, 6)
	next(t, x, 8, 6)
	due(t, x, 6, 0, 8)
	none(t, x)
}

func TestDueOfTheExample(t *testing.T) {
	x := filled(t, pair{7, 5}, pair{3, 5}, pair{9, 4}, pair{9, 6})
	due(t, x, 5, 1, 3, 7)
	next(t, x, 9, 6)
}

func TestDue(t *testing.T) {
	l := []pair{{4, 20}, {1, 30}, {3, 10}, {2, 20}, {-2, 20}, {5, -10}, {6, 30}, {0, 31}}
	due(t, timers.New(), 0, 0)
	for _, c := range []struct {
		now  int
		want []int
	}{
		{math.MinInt, nil},
		{-11, nil},
		{-10, []int{5}},
		{9, []int{5}},
		{10, []int{5, 3}},
		{19, []int{5, 3}},
		{20, []int{5, 3, -2, 2, 4}},
		{29, []int{5, 3, -2, 2, 4}},
		{30, []int{5, 3, -2, 2, 4, 1, 6}},
		{31, []int{5, 3, -2, 2, 4, 1, 6, 0}},
		{math.MaxInt, []int{5, 3, -2, 2, 4, 1, 6, 0}},
	} {
		x := filled(t, l...)
		due(t, x, c.now, len(l)-len(c.want), c.want...)
		due(t, x, c.now, len(l)-len(c.want))
		for _, p := range l { // they are gone, and no others
			if slices.Contains(c.want, p.id) {
				cancel(t, x, p.id, 0, false)
			} else {
				cancel(t, x, p.id, p.at, true)
			}
		}
		none(t, x)
	}
}

func TestDueOfManyWithOneTime(t *testing.T) {
	x := timers.New()
	var want []int
	for i := range 1000 {
		set(t, x, i*617%1000-500, 3, true)
		want = append(want, i-500)
	}
	due(t, x, 2, 1000)
	due(t, x, 3, 0, want...)
}

func TestDueAnswersNewMemory(t *testing.T) {
	x := filled(t, pair{1, 1}, pair{2, 2}, pair{3, 3}, pair{4, 4}, pair{5, 5})
	a := x.Due(3)
	spoil(a)
	b := x.Due(4)
	kept := slices.Clone(b)
	spoil(a)
	next(t, x, 5, 5)
	set(t, x, 7, 1, true)
	c := x.Due(9)
	spoil(c)
	if !slices.Equal(b, kept) || !slices.Equal(b, []int{4}) {
		t.Fatal(b)
	}
	none(t, x)
}

// spoil writes over a list and over the spare room behind it.
func spoil(l []int) {
	l = l[:cap(l)]
	for i := range l {
		l[i] = -77
	}
}

// P6.3

// drawn is a row of numbers that look drawn by chance, the same each time.
type drawn uint64

func (d *drawn) below(n int) int {
	*d = *d*6364136223846793005 + 1442695040888963407
	return int(uint64(*d)>>33) % n
}

// held does one call that is drawn, of Timers and of the plain list, and holds the answers against each other.
func held(t *testing.T, x *timers.Timers, l *plain, d *drawn, ids, times []int) {
	t.Helper()
	id, at := ids[d.below(len(ids))], times[d.below(len(times))]
	switch d.below(20) {
	case 0, 1, 2, 3:
		want, ok := l.cancel(id)
		cancel(t, x, id, want, ok)
	case 4:
		want := l.due(at)
		due(t, x, at, len(*l), want...)
	default:
		set(t, x, id, at, l.set(id, at))
	}
	size(t, x, len(*l))
	if id, at, ok := l.next(); ok {
		next(t, x, id, at)
	} else {
		none(t, x)
	}
}

func upTo(n, from int) []int {
	l := make([]int, n)
	for i := range l {
		l[i] = from + i
	}
	return l
}

func TestAsAPlainList(t *testing.T) {
	edges := []int{math.MinInt, math.MinInt + 1, -2, -1, 0, 1, 2, math.MaxInt - 1, math.MaxInt}
	for i, c := range []struct{ ids, times []int }{
		{upTo(3, -1), upTo(3, -1)},
		{upTo(20, -10), upTo(5, 0)},
		{upTo(20, 0), upTo(1000, -500)},
		{upTo(200, 0), upTo(50, -25)},
		{upTo(200, 0), upTo(1, 4)},
		{edges, edges},
		{upTo(100, 50), edges},
		{edges, upTo(4, 0)},
	} {
		d := drawn(i)
		x, l := timers.New(), plain{}
		for range 5000 {
			held(t, x, &l, &d, c.ids, c.times)
		}
	}
}

// Few come due here, so that the Timers are full for most of the row.
func TestAsAPlainListWhenFull(t *testing.T) {
	d := drawn(99)
	x, l := timers.New(), plain{}
	for i := range api.MaxTimers - 5 {
		at := d.below(1000)
		set(t, x, i, at, true)
		l.set(i, at)
	}
	refused := 0
	for range 3000 {
		id, at := d.below(api.MaxTimers+200), d.below(1000)
		if d.below(50) == 0 {
			want, ok := l.cancel(id)
			cancel(t, x, id, want, ok)
			continue
		}
		ok := l.set(id, at)
		set(t, x, id, at, ok)
		if !ok {
			refused++
		}
		i, a, _ := l.next()
		next(t, x, i, a)
		size(t, x, len(l))
	}
	if refused < 50 {
		t.Fatal("the row refuses too little:", refused)
	}
	due(t, x, 500, len(l)-len(dueOf(l, 500)), dueOf(l, 500)...)
}

func dueOf(l plain, now int) []int {
	c := slices.Clone(l)
	return c.due(now)
}

// Two with the same calls stay the same, and one does nothing to the other.
func TestTwins(t *testing.T) {
	a, b, other := timers.New(), timers.New(), timers.New()
	la, lb := plain{}, plain{}
	da, db := drawn(5), drawn(5)
	for i := range 2000 {
		held(t, a, &la, &da, upTo(30, 0), upTo(30, 0))
		other.Set(i%100, i%7)
		held(t, b, &lb, &db, upTo(30, 0), upTo(30, 0))
	}
	due(t, a, math.MaxInt, 0, dueOf(lb, math.MaxInt)...)
	due(t, b, math.MaxInt, 0, dueOf(la, math.MaxInt)...)
	size(t, other, 100)
}

func TestNilTimers(t *testing.T) {
	var x *timers.Timers
	for _, n := range []int{math.MinInt, -1, 0, 1, math.MaxInt} {
		set(t, x, n, n, false)
		cancel(t, x, n, 0, false)
		due(t, x, n, 0)
	}
	none(t, x)
}

// A Timers that New did not make is not spoken of; it must not panic (W1), and is one without a thing.
func TestTimersWithoutNew(t *testing.T) {
	var x timers.Timers
	none(t, &x)
	cancel(t, &x, 1, 0, false)
	set(t, &x, 1, 2, true)
	next(t, &x, 1, 2)
	due(t, &x, 2, 0, 1)
}

func TestTimersCopiedAsAValue(t *testing.T) {
	x := filled(t, pair{1, 10}, pair{2, 20}, pair{3, 30})
	y := *x // of the two only y is used behind this
	set(t, &y, 4, 5, true)
	next(t, &y, 4, 5)
	cancel(t, &y, 2, 20, true)
	due(t, &y, 99, 0, 4, 1, 3)
}
