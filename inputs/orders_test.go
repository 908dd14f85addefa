package inputs_test

import (
	"slices"
	"testing"

	"gauntlet/api"
	"gauntlet/inputs"
)

// P12.3: in whatever order

// orders hands on each order of a list.
func orders[T any](l []T, done int, use func([]T)) {
	if done == len(l) {
		use(l)
		return
	}
	for i := done; i < len(l); i++ {
		l[done], l[i] = l[i], l[done]
		orders(l, done+1, use)
		l[done], l[i] = l[i], l[done]
	}
}

func TestEachOrderOfAFew(t *testing.T) {
	for _, told := range [][]fact{
		{{0, 0, 5}, {0, 2, 7}, {1, 1, 5}, {1, 0, 0}, {0, 3, 0}, {1, 3, 9}},
		append(row(0, 1, 0, 1), row(1, 0, 1, 1)...),
		{{1, 0, 4}, {1, 1, 4}, {1, 2, 3}, {1, 3, 3}, {1, 4, 0}, {0, 4, 1}},
	} {
		p := plain{5, slices.Clone(told)}
		orders(told, 0, func(l []fact) {
			p.answers(t, queue(t, 5, l...))
		})
	}
}

// What is refused on the way changes nothing of what is known in the end.
func TestAnyOrderOfMany(t *testing.T) {
	d := drawn(31)
	for _, frames := range []int{1, 4, 17, 600} {
		var told []fact
		for _, x := range full(frames) {
			if d.below(8) > 0 {
				told = append(told, fact{x.player, x.frame, d.input()})
			}
		}
		p := plain{frames, slices.Clone(told)}
		for range 4 {
			shuffle(&d, told)
			q := queue(t, frames)
			for i, x := range told {
				put(t, q, x, api.OK)
				put(t, q, x, api.ErrHas)
				elder := told[d.below(i+1)]
				put(t, q, fact{elder.player, elder.frame, elder.in + 1}, api.ErrOdd)
			}
			p.answers(t, q)
		}
	}
}

// Of two that are told of one frame, it is the first that stays.
func TestTheFirstStays(t *testing.T) {
	for _, x := range []fact{{0, 1, 3}, {1, 1, 4}} {
		other := fact{x.player, x.frame, x.in + 9}
		for range 2 {
			q := queue(t, 2, x)
			put(t, q, other, api.ErrOdd)
			put(t, q, x, api.ErrHas)
			get(t, q, x.player, 1, x.in, true)
			get(t, q, x.player, 2, x.in, false)
			x, other = other, x
		}
	}
}

// P12.1 and P12.2 over all that three calls can be told

func eachFact(frames int) []fact {
	var l []fact
	for player := -1; player <= 2; player++ {
		for frame := -1; frame <= frames; frame++ {
			l = append(l, fact{player, frame, 0}, fact{player, frame, 3})
		}
	}
	return l
}

func TestEachThreeCalls(t *testing.T) {
	some := eachFact(2)
	for _, first := range some {
		for _, second := range some {
			for _, third := range some {
				q, p := queue(t, 2), plain{frames: 2}
				for _, x := range []fact{first, second, third} {
					put(t, q, x, p.put(x))
				}
				p.answers(t, q)
			}
		}
	}
}

func TestDrawnCalls(t *testing.T) {
	d := drawn(32)
	counts := map[api.Errno]int{}
	for range 300 {
		p := plain{frames: 1 + d.below(12)}
		q := queue(t, p.frames)
		for range d.below(5 * p.frames) {
			x := d.fact(p.frames)
			e := p.put(x)
			put(t, q, x, e)
			p.answers(t, q)
			counts[e]++
		}
	}
	for _, e := range []api.Errno{api.OK, api.ErrArg, api.ErrHas, api.ErrOdd} {
		if counts[e] < 300 {
			t.Errorf("%v came %d times only", e, counts[e])
		}
	}
}

// Queues know nothing of each other.
func TestQueuesAreApart(t *testing.T) {
	d := drawn(33)
	var queues [5]*inputs.Queue
	var plains [5]plain
	for i := range queues {
		plains[i].frames = 3 + i/2
		queues[i] = queue(t, plains[i].frames)
	}
	for range 200 {
		i := d.below(len(queues))
		x := d.fact(plains[i].frames)
		put(t, queues[i], x, plains[i].put(x))
		for i := range queues {
			plains[i].answers(t, queues[i])
		}
	}
}
