package contest_test

import (
	"testing"

	"gauntlet/api"
	"gauntlet/contest"
)

// All promises, over rows of events held against the chapter's words.

// rows hands on each row of so many events out of a list.
func rows(many int, l []api.Event, use func([]api.Event)) {
	row := make([]api.Event, many)
	var fill func(done int)
	fill = func(done int) {
		if done == many {
			use(row)
			return
		}
		for _, e := range l {
			row[done] = e
			fill(done + 1)
		}
	}
	fill(0)
}

// Each row of four events of those that may come, behind some beginnings.
func TestEachRowOfFourEvents(t *testing.T) {
	some := []api.Event{
		open(7, 9, 5), join(7), forfeit(9), result(9, api.WhyGame), result(7, api.WhyCap),
		input(7, 0, 1), input(9, 0, 9), input(7, 1, 0), input(9, 1, 1), input(8, 0, 0), {Kind: api.EventJoin, Player: 7, N: 1},
	}
	for _, begin := range [][]api.Event{nil, {open(7, 9, 3)}, {open(7, 9, 3), input(7, 0, 4), input(9, 0, 8)}} {
		for _, text := range []string{adds, nines} {
			g := game(t, text, 2)
			rows(4, some, func(row []api.Event) {
				c, p := made(t, g), &plain{g: g}
				for _, e := range append(list(begin), row...) {
					p.both(t, c, e)
				}
				if s := c.Status(); s != p.status() || c.State() != p.state() || len(c.Pairs()) != len(p.pairs()) {
					t.Fatalf("behind %v: got %v, %v, want %v, %v", p.taken, s, c.State(), p.status(), p.state())
				}
				for _, player := range []int{7, 9, 8} {
					if c.Owes(player) != p.owes(player) || len(c.Inputs(player, 0)) != p.count(player) {
						t.Fatalf("behind %v: Owes(%d) is %v", p.taken, player, c.Owes(player))
					}
				}
			})
		}
	}
}

// drawn is a row of numbers that look drawn by chance, the same each time.
type drawn uint64

func (d *drawn) below(n int) int {
	*d = *d*6364136223846793005 + 1442695040888963407
	return int(uint64(*d)>>33) % n
}

// texts is programs that go by what is done, by the seed, by the order; that fail now and then; that are won late or early.
var texts = []string{
	adds, nines, rands, "", "rand\nin 0\nadd\nstore 0\n" + adds,
	"load 0\npush 98304\nmul\nin 0\nadd\nstore 0\nload 1\npush -81920\nmul\nin 1\nadd\nload 0\nsub\nstore 1\n",
	"in 0\nzero 0\nin 1\nzero 5\ndrop\nload 1\nin 1\nadd\nstore 1\n",
	"load 0\nin 0\nadd\nstore 0\nload 0\npush 20\nless\nzero 9\nhalt\nwin 1\n",
	"frame\npush 6\nsub\nnot\nzero 6\nwin 2\nload 0\nin 1\nadd\nstore 0\n",
}

func (d *drawn) game(t *testing.T) api.Game {
	g := game(t, texts[d.below(len(texts))], 1+d.below(30))
	if d.below(8) == 0 {
		g.Cap, g.Fuel = 600-d.below(3), 1+d.below(2000)
	}
	if d.below(4) == 0 {
		g.Fuel = 1 + d.below(12)
	}
	return g
}

func (d *drawn) input() uint16 {
	if d.below(8) == 0 {
		return uint16(d.below(65536))
	}
	return uint16(d.below(11))
}

// event is mostly one that is taken.
func (d *drawn) event(p *plain) api.Event {
	if !p.isOpen() && d.below(3) > 0 {
		return open(d.below(4), d.below(4), d.below(1<<31)<<1|d.below(2))
	}
	player := p.seats()[d.below(2)]
	if d.below(20) == 0 {
		player = someone[d.below(len(someone))]
	}
	switch d.below(60) {
	case 0:
		return forfeit(player)
	case 1, 2, 3:
		return join(player)
	case 4, 5:
		return open(d.below(4), d.below(4), d.below(9))
	case 6, 7, 8:
		return d.oddEvent(player)
	case 9, 10, 11, 12:
		return result(player, d.below(4))
	case 13, 14, 15:
		return input(player, p.count(player)+d.below(3)-1, d.input())
	case 16:
		return input(player, p.g.Cap-1+d.below(3), d.input())
	case 17, 18, 19:
		return input(player, d.below(p.count(player)+1)-1, d.input())
	case 20, 21:
		return d.toldInput(p, player)
	}
	return input(player, p.count(player), d.input())
}

// toldInput is one that was told already, or the first.
func (d *drawn) toldInput(p *plain, player int) api.Event {
	l := p.inputs(player, 0)
	if len(l) == 0 {
		return input(player, 0, 0)
	}
	frame := d.below(len(l))
	return input(player, frame, l[frame])
}

// oddEvent is one of any kind with something in any field.
func (d *drawn) oddEvent(player int) api.Event {
	e := api.Event{Kind: d.below(8) - 1, Player: player}
	for _, field := range []string{"Other", "Frame", "In", "N"} {
		if d.below(3) == 0 {
			e = filled(e, field, d.below(4)-1)
		}
	}
	return e
}

func TestDrawnMatches(t *testing.T) {
	d := drawn(18)
	counts := map[api.Errno]int{}
	whys := map[int]int{}
	ahead := 0
	for range 500 {
		g := d.game(t)
		c, p := made(t, g), &plain{g: g}
		for i := range 10 + d.below(10)*d.below(20) {
			counts[p.both(t, c, d.event(p))]++
			if i%7 == 0 {
				stays(t, c, p.look())
			}
		}
		stays(t, c, p.look())
		again(t, g, c)
		s := p.status()
		whys[s.Why]++
		if p.ended() && s.Count[0] != s.Count[1] {
			ahead++
		}
	}
	for _, e := range []api.Errno{api.OK, api.ErrArg, api.ErrState, api.ErrOver, api.ErrPlayer, api.ErrHas, api.ErrOdd, api.ErrWindow, api.ErrForm} {
		if counts[e] < 100 {
			t.Errorf("%v came %d times only", e, counts[e])
		}
	}
	for why := range 4 {
		if whys[why] < 15 {
			t.Errorf("only %d matches ended by %d", whys[why], why)
		}
	}
	if ahead < 50 {
		t.Errorf("only %d matches ended with one ahead", ahead)
	}
}

// P18.3

// again has the events of a match taken by a new one, each of them, and tells whether it is the same.
func again(t *testing.T, g api.Game, c *contest.Contest) {
	t.Helper()
	other := made(t, g)
	for i, e := range c.Events() {
		if may, did := other.May(e), other.Apply(e); may != api.OK || did != api.OK {
			t.Fatalf("event %d, %v, taken anew: %v, %v", i, e, may, did)
		}
	}
	stays(t, other, look(c))
}

// Each beginning of the events makes the match as it was then.
func TestEachBeginningAnew(t *testing.T) {
	d := drawn(19)
	for range 60 {
		g := d.game(t)
		c, p := made(t, g), &plain{g: g}
		was := []shown{look(c)}
		for range 80 {
			if p.both(t, c, d.event(p)) == api.OK {
				was = append(was, look(c))
			}
		}
		other := made(t, g)
		for i, e := range c.Events() {
			stays(t, other, was[i])
			if err := other.Apply(e); err != api.OK {
				t.Fatalf("event %d, %v: %v", i, e, err)
			}
		}
		stays(t, other, was[len(was)-1])
	}
}

// Another order of what the two tell makes the same game.
func TestOrderOfTheTwo(t *testing.T) {
	d := drawn(20)
	for range 40 {
		g := game(t, texts[d.below(len(texts))], 1+d.below(20))
		var in [2][]uint16
		for range g.Cap {
			in[0], in[1] = append(in[0], d.input()), append(in[1], d.input())
		}
		var ends []api.State
		for range 4 {
			c := opened(t, g)
			for !c.State().Over {
				seat := d.below(2)
				player := 7 + 2*seat
				n := c.Status().Count[seat]
				if n == g.Cap {
					continue
				}
				if e := c.Apply(input(player, n, in[seat][n])); e != api.OK && e != api.ErrWindow {
					t.Fatal(e)
				}
			}
			ends = append(ends, c.State())
		}
		for _, s := range ends {
			if s != ends[0] {
				t.Errorf("got %v and %v", s, ends[0])
			}
		}
	}
}
