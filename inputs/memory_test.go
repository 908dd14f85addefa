package inputs_test

import (
	"slices"
	"testing"

	"gauntlet/api"
	"gauntlet/inputs"
)

// P12.3: of a nil Queue, and what is answered

func TestNilQueue(t *testing.T) {
	var q *inputs.Queue
	for _, player := range append([]int{0, 1}, noPlayers...) {
		for _, frame := range someFrames(4) {
			put(t, q, fact{player, frame, 0}, api.ErrArg)
			put(t, q, fact{player, frame, 7}, api.ErrArg)
			get(t, q, player, frame, 0, false)
		}
		if n := q.Known(player); n != 0 {
			t.Errorf("Known(%d) of a nil Queue: %d", player, n)
		}
	}
	knows(t, q, 0, 0)
}

// A Queue that New did not make is one without a frame.
func TestQueueWithoutNew(t *testing.T) {
	q := &inputs.Queue{}
	put(t, q, fact{0, 0, 0}, api.ErrArg)
	put(t, q, fact{1, 0, 5}, api.ErrArg)
	(&plain{}).answers(t, q)
}

// scribble fills a list and its spare room.
func scribble(l []api.Pair) {
	l = l[:cap(l)]
	for i := range l {
		l[i] = api.Pair{77, 78}
	}
}

func TestPairsAreNewMemory(t *testing.T) {
	for _, frames := range []int{1, 2, 3, 5, 8, 600} {
		for _, n := range []int{0, 1, frames - 1, frames} {
			p := plain{frames, full(n)}
			q := queue(t, frames, p.told...)
			first, second := q.Pairs(), q.Pairs()
			scribble(first)
			if want := p.pairs(); !slices.Equal(second, want) {
				t.Fatalf("two answers share memory: %v, want %v", second, want)
			}
			p.answers(t, q)
			scribble(second)
			for _, x := range full(frames)[2*n:] { // what comes later goes nowhere near it
				put(t, q, x, p.put(x))
			}
			p.answers(t, q)
		}
	}
}

// An answer stays what it is, whatever is told later.
func TestPairsStay(t *testing.T) {
	type answer struct{ l, want []api.Pair }
	var answers []answer
	q, p := queue(t, 40), plain{frames: 40}
	for _, x := range full(40) {
		put(t, q, x, p.put(x))
		answers = append(answers, answer{q.Pairs(), p.pairs()})
	}
	for i, a := range answers {
		if !slices.Equal(a.l, a.want) || len(a.l) != (i+1)/2 {
			t.Fatalf("answer %d: got %v, want %v", i, a.l, a.want)
		}
	}
}

// To ask changes nothing: a Queue that is asked after each Put is the same as one that never was.
func TestAskingChangesNothing(t *testing.T) {
	d := drawn(34)
	asked, p := queue(t, 8), plain{frames: 8}
	silent := queue(t, 8)
	for range 60 {
		x := d.fact(8)
		e := p.put(x)
		put(t, asked, x, e)
		put(t, silent, x, e)
		for range 2 {
			p.answers(t, asked)
		}
	}
	p.answers(t, silent)
}
