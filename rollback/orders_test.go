package rollback_test

import (
	"slices"
	"testing"

	"gauntlet/api"
	"gauntlet/duel"
	"gauntlet/rollback"
)

// P14.5: whatever was guessed, and in whatever order

// orders hands on each order of a list.
func orders[T any](l []T, done int, use func([]T)) {
	if done == len(l) {
		use(l)
		return
	}
	for i := done; i < len(l); i++ {
		l[done], l[i] = l[i], l[done]
		orders(l, done+1, use)
		l[done], l[i] = l[i], l[done]
	}
}

// mixes hangs on the order of what both do.
const mixes = "load 0\npush 98304\nmul\nin 0\nadd\nstore 0\nload 1\npush -81920\nmul\nin 1\nadd\nload 0\nsub\nstore 1\nrand\nstore 2\n"

func TestEachOrderOfRemotes(t *testing.T) {
	for _, text := range []string{mixes, nines, forty} {
		for _, theirs := range [][]uint16{{1, 2, 2, 0, 0, 3}, {0, 0, 4, 4, 9, 0}, {10, 10, 10, 5, 5, 5}} {
			g := game(t, text, 20)
			for me := range 2 {
				orders([]int{0, 1, 2, 3, 4, 5}, 0, func(frames []int) {
					s, p := ahead(t, g, me, 6, 1), newPlain(g, 1, me)
					for range 6 {
						p.local(1)
					}
					for _, frame := range frames {
						p.both(t, s, call{frame: frame, in: theirs[frame]})
					}
					p.answers(t, s)
				})
			}
		}
	}
}

// rows hands on each row of so many calls out of a list.
func rows(many int, l []call, use func([]call)) {
	row := make([]call, many)
	var fill func(done int)
	fill = func(done int) {
		if done == many {
			use(row)
			return
		}
		for _, x := range l {
			row[done] = x
			fill(done + 1)
		}
	}
	fill(0)
}

func TestEachRowOfFiveCalls(t *testing.T) {
	some := []call{{local: true, in: 0}, {local: true, in: 9}}
	for frame := range 3 {
		some = append(some, call{frame: frame, in: 0}, call{frame: frame, in: 9})
	}
	for _, text := range []string{mixes, nines, adds + "load 0\npush 9\nsub\nnot\nzero 14\nwin 1\n"} {
		g := game(t, text, 3)
		rows(5, some, func(row []call) {
			s, p := session(t, g, 0), newPlain(g, 1, 0)
			for _, x := range row {
				p.both(t, s, x)
			}
			p.answers(t, s)
		})
	}
}

func TestDrawnCalls(t *testing.T) {
	d := drawn(51)
	counts := map[api.Errno]int{}
	wrong, reopened, longest := 0, 0, 0
	for i := range 900 {
		g, seed := d.game(), uint32(d.below(1<<31))
		s, e := rollback.New(g, seed, i%2)
		if e != api.OK {
			t.Fatal(e)
		}
		p := newPlain(g, seed, i%2)
		for range 20 + d.below(15)*d.below(15) {
			over := p.now().Over
			counts[p.both(t, s, d.call(p))]++
			p.answers(t, s)
			if over && !p.now().Over {
				reopened++
			}
		}
		wrong, longest = wrong+p.wrong, max(longest, p.sure().Frame)
	}
	for _, e := range []api.Errno{api.OK, api.ErrArg, api.ErrOver, api.ErrWindow, api.ErrHas, api.ErrOdd} {
		if counts[e] < 300 {
			t.Errorf("%v came %d times only", e, counts[e])
		}
	}
	if wrong < 1000 || reopened < 40 || longest < 40 {
		t.Errorf("the games are too much alike: %d wrong, %d over no more, %d frames", wrong, reopened, longest)
	}
}

// late is inputs under way from one player to the other.
type late struct {
	d     *drawn
	under []call
}

// send has an input go, or now and then twice.
func (l *late) send(frame int, in uint16) {
	l.under = append(l.under, slices.Repeat([]call{{frame: frame, in: in}}, 1+l.d.below(8)/7)...)
}

// arrive tells some of what is under way, in any order; what is too far ahead goes on.
func (l *late) arrive(t *testing.T, s *rollback.Session) {
	t.Helper()
	shuffle(l.d, l.under)
	var left []call
	for _, x := range l.under {
		if l.d.below(4) > 0 {
			left = append(left, x)
			continue
		}
		switch e := s.Remote(x.frame, x.in); e {
		case api.OK, api.ErrHas, api.ErrOver:
		default:
			t.Fatalf("Remote(%d, %d): %v", x.frame, x.in, e)
		}
	}
	l.under = left
}

// Two play each other from afar: at each frame that is sure, both have the state of the whole game, and both come to its end.
func TestTwoFromAfar(t *testing.T) {
	d := drawn(52)
	for _, g := range []api.Game{game(t, mixes, 600), game(t, adds, 600), game(t, mixes, 1), game(t, mixes, 9), game(t, nines, 50), game(t, forty, 50)} {
		for range 4 {
			in := make([]api.Pair, g.Cap)
			for i := range in {
				in[i] = api.Pair{uint16(d.below(3)), uint16(d.below(3))}
			}
			states, _ := duel.States(g, 1, in)
			last := states[len(states)-1]
			players := [2]*rollback.Session{session(t, g, 0), session(t, g, 1)}
			ways := [2]late{{d: &d}, {d: &d}}
			var played [2]int
			for turn := 0; players[0].Sure() != last || players[1].Sure() != last; turn++ {
				if turn > 100000 {
					t.Fatalf("no end: %v, %v", players[0].Sure(), players[1].Sure())
				}
				me := d.below(2)
				if n := played[me]; n < g.Cap {
					if frame, e := players[me].Local(in[n][me]); e == api.OK && frame == n {
						ways[1-me].send(n, in[n][me])
						played[me]++
					}
				}
				ways[me].arrive(t, players[me])
				if sure := players[me].Sure(); sure != states[sure.Frame] {
					t.Fatalf("Sure of %d: got %v, want %v", me, sure, states[sure.Frame])
				}
			}
		}
	}
}

// Sessions know nothing of each other.
func TestSessionsAreApart(t *testing.T) {
	d := drawn(53)
	var sessions [5]*rollback.Session
	var plains [5]*plain
	for i := range sessions {
		g := game(t, []string{mixes, nines, forty}[i%3], 30+i)
		sessions[i], plains[i] = session(t, g, i%2), newPlain(g, 1, i%2)
	}
	for range 400 {
		i := d.below(len(sessions))
		plains[i].both(t, sessions[i], d.call(plains[i]))
		for i := range sessions {
			plains[i].answers(t, sessions[i])
		}
	}
}

// To ask changes nothing: one that is asked behind each call is the same as one that never was.
func TestAskingChangesNothing(t *testing.T) {
	d := drawn(54)
	for range 30 {
		g := d.game()
		asked, quiet := session(t, g, 1), session(t, g, 1)
		p, q := newPlain(g, 1, 1), newPlain(g, 1, 1)
		for range 60 {
			x := d.call(p)
			p.both(t, asked, x)
			q.both(t, quiet, x)
			p.answers(t, asked)
			p.answers(t, asked)
		}
		q.answers(t, quiet)
	}
}
