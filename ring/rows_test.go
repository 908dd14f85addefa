package ring_test

import (
	"testing"

	"gauntlet/api"
	"gauntlet/ring"
)

// P13.3: behind any row of Puts

// gapless tells whether what is there has no gap, and is no more than there is room for.
func gapless(t *testing.T, r *ring.Ring, n int) {
	t.Helper()
	least, greatest := r.Frames()
	count := 0
	for frame := -1; frame < 602; frame++ {
		s, ok := r.Get(frame)
		if ok != (least >= 0 && frame >= least && frame <= greatest) || ok && s.Frame != frame {
			t.Fatalf("Get(%d): got %v, %v, with Frames %d, %d", frame, s, ok, least, greatest)
		}
		if ok {
			count++
		}
	}
	if count > n || least >= 0 && count != greatest-least+1 {
		t.Fatalf("%d states, with Frames %d, %d and room for %d", count, least, greatest, n)
	}
}

// rows hands on each row of so many frames from 0 to below another number.
func rows(many, below int, use func([]int)) {
	row := make([]int, many)
	var fill func(done int)
	fill = func(done int) {
		if done == many {
			use(row)
			return
		}
		for row[done] = 0; row[done] < below; row[done]++ {
			fill(done + 1)
		}
	}
	fill(0)
}

func TestEachRowOfFivePuts(t *testing.T) {
	for n := 1; n <= 3; n++ {
		rows(5, 5, func(row []int) {
			r, p := empty(t, n), plain{n: n}
			for i, frame := range row {
				s := at(frame)
				s.Seed = uint32(i)
				put(t, r, s, p.put(s))
			}
			least, greatest := p.frames()
			frames(t, r, least, greatest)
			want, ok := p.newest()
			newest(t, r, want, ok)
			for frame := -1; frame < 7; frame++ {
				want, ok := p.get(frame)
				get(t, r, frame, want, ok)
			}
		})
	}
}

func TestDrawnPuts(t *testing.T) {
	d := drawn(41)
	counts := map[api.Errno]int{}
	for _, n := range []int{1, 2, 3, 4, 7, 8, 50, 255, 256} {
		for range 4 {
			r, p := empty(t, n), plain{n: n}
			for range min(50+3*n, 250) {
				s := d.next(&p)
				e := p.put(s)
				put(t, r, s, e)
				p.answers(t, r)
				gapless(t, r, n)
				counts[e]++
			}
		}
	}
	for _, e := range []api.Errno{api.OK, api.ErrArg} {
		if counts[e] < 300 {
			t.Errorf("%v came %d times only", e, counts[e])
		}
	}
}

// Rings know nothing of each other.
func TestRingsAreApart(t *testing.T) {
	d := drawn(42)
	var rings [5]*ring.Ring
	var plains [5]plain
	for i := range rings {
		plains[i].n = 3 + i/2
		rings[i] = empty(t, plains[i].n)
	}
	for range 200 {
		i := d.below(len(rings))
		s := d.next(&plains[i])
		put(t, rings[i], s, plains[i].put(s))
		for i := range rings {
			plains[i].answers(t, rings[i])
		}
	}
}

// To ask changes nothing: one that is asked after each Put is the same as one that never was.
func TestAskingChangesNothing(t *testing.T) {
	d := drawn(43)
	asked, quiet, p := empty(t, 5), empty(t, 5), plain{n: 5}
	for range 300 {
		s := d.next(&p)
		want := p.put(s)
		put(t, asked, s, want)
		p.answers(t, asked)
		put(t, quiet, s, want)
	}
	p.answers(t, quiet)
}

// What is refused changes nothing that a later call could tell.
func TestRefusedChangesNothing(t *testing.T) {
	d := drawn(44)
	wrong := []api.State{at(-1), at(601), {Winner: 1}, {Frame: 600, Over: true, Winner: 3}}
	for _, n := range []int{1, 4, 9} {
		refused, p := empty(t, n), plain{n: n}
		for range 150 {
			for _, s := range wrong {
				put(t, refused, s, api.ErrArg)
			}
			if least, greatest := p.frames(); least >= 0 {
				for _, frame := range []int{least - 1, least - n, greatest + 2, greatest + 1 + n} {
					put(t, refused, at(frame), api.ErrArg)
				}
			}
			p.answers(t, refused)
			s := d.next(&p)
			put(t, refused, s, p.put(s))
			p.answers(t, refused)
		}
	}
}

// P13.3: of a nil Ring

func TestNilRing(t *testing.T) {
	var r *ring.Ring
	for range 2 { // what is handed in goes nowhere
		has(t, r)
		for _, frame := range append([]int{0, 1, 5, 600}, farFrames...) {
			put(t, r, at(frame), api.ErrArg)
			put(t, r, other(frame), api.ErrArg)
		}
		put(t, r, api.State{}, api.ErrArg)
	}
}

// One that New did not make has no room.
func TestRingWithoutNew(t *testing.T) {
	r := &ring.Ring{}
	for range 2 {
		has(t, r)
		for _, frame := range append([]int{0, 1, 5, 600}, farFrames...) {
			put(t, r, at(frame), api.ErrArg)
		}
	}
}

// An answer stays what it is, and what is done to it goes nowhere.
func TestAnswersStay(t *testing.T) {
	r := filled(t, 3, 0, 2)
	first, _ := r.Get(2)
	last, _ := r.Newest()
	first.Cells[0], last.Cells[1], first.Frame = 1000, 1001, 7
	has(t, r, at(0), at(1), at(2))
	kept, _ := r.Get(1)
	put(t, r, other(1), api.OK)
	put(t, r, other(2), api.OK)
	put(t, r, at(3), api.OK)
	put(t, r, at(4), api.OK)
	if kept != at(1) {
		t.Errorf("an answer became %v", kept)
	}
}

// What is handed in is not kept: to change it later changes nothing.
func TestHandedInIsNotKept(t *testing.T) {
	r, s := empty(t, 2), at(3)
	put(t, r, s, api.OK)
	if s != at(3) {
		t.Errorf("what was handed in became %v", s)
	}
	s.Cells[4], s.Seed = 5, 6
	has(t, r, at(3))
}
