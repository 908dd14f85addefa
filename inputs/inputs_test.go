package inputs_test

import (
	"math"
	"slices"
	"testing"

	"gauntlet/api"
	"gauntlet/inputs"
)

// queue is one of so many frames, of which this is known.
func queue(t *testing.T, frames int, told ...fact) *inputs.Queue {
	t.Helper()
	q, e := inputs.New(frames)
	if q == nil || e != api.OK {
		t.Fatalf("New(%d): got %v, %v", frames, q, e)
	}
	for _, x := range told {
		put(t, q, x, api.OK)
	}
	return q
}

func put(t *testing.T, q *inputs.Queue, x fact, want api.Errno) {
	t.Helper()
	if e := q.Put(x.player, x.frame, x.in); e != want {
		t.Fatalf("Put(%d, %d, %d): got %v, want %v", x.player, x.frame, x.in, e, want)
	}
}

func get(t *testing.T, q *inputs.Queue, player, frame int, want uint16, wantOK bool) {
	t.Helper()
	if in, ok := q.Get(player, frame); in != want || ok != wantOK {
		t.Errorf("Get(%d, %d): got %d, %v, want %d, %v", player, frame, in, ok, want, wantOK)
	}
}

// knows tells how much is known of each player, and what of both.
func knows(t *testing.T, q *inputs.Queue, first, second int, pairs ...api.Pair) {
	t.Helper()
	if a, b := q.Known(0), q.Known(1); a != first || b != second {
		t.Errorf("Known: got %d, %d, want %d, %d", a, b, first, second)
	}
	if n := q.Both(); n != len(pairs) {
		t.Errorf("Both: got %d, want %d", n, len(pairs))
	}
	if l := q.Pairs(); !slices.Equal(l, pairs) {
		t.Errorf("Pairs: got %v, want %v", l, pairs)
	}
}

// row is that a player does these, from frame 0 on.
func row(player int, in ...uint16) []fact {
	var l []fact
	for frame, x := range in {
		l = append(l, fact{player, frame, x})
	}
	return l
}

// full is frames of both players, all of them with another input.
func full(frames int) []fact {
	var l []fact
	for frame := range frames {
		l = append(l, fact{0, frame, uint16(2*frame + 1)}, fact{1, frame, uint16(2*frame + 2)})
	}
	return l
}

// P12.1

func TestNewOfWrongNumbers(t *testing.T) {
	for _, frames := range []int{math.MinInt, -1 << 32, -600, -2, -1, 0, 601, 602, 1000, 1 << 16, 1<<16 + 1, 1 << 32, 1<<32 + 1, 1<<32 + 600, math.MaxInt - 1, math.MaxInt} {
		if q, e := inputs.New(frames); q != nil || e != api.ErrArg {
			t.Errorf("New(%d): got %v, %v, want nothing, %v", frames, q, e, api.ErrArg)
		}
	}
}

func TestNewHasSoManyFrames(t *testing.T) {
	for _, frames := range []int{1, 2, 3, 16, 255, 256, 257, 599, 600} {
		for player := range 2 {
			q := queue(t, frames)
			put(t, q, fact{player, frames, 1}, api.ErrArg)
			put(t, q, fact{player, frames - 1, 1}, api.OK)
			get(t, q, player, frames-1, 1, true)
			get(t, q, player, frames, 1, false)
		}
	}
	if api.MaxCap != 600 {
		t.Errorf("MaxCap is %d", api.MaxCap)
	}
}

func TestNewKnowsNothing(t *testing.T) {
	for _, frames := range []int{1, 2, 7, 600} {
		knows(t, queue(t, frames), 0, 0)
		(&plain{frames: frames}).answers(t, queue(t, frames))
	}
}

func TestPutOfEachFrame(t *testing.T) {
	for _, frames := range []int{1, 2, 5, 600} {
		for player := range 2 {
			for frame := range frames {
				for _, in := range []uint16{0, 1, 255, 256, 65535} {
					q := queue(t, frames, fact{player, frame, in})
					get(t, q, player, frame, in, true)
					get(t, q, 1-player, frame, 0, false)
				}
			}
		}
	}
}

// refuses tells that Put takes none of these, nor changes anything, whether all is known or nothing.
func refuses(t *testing.T, frames int, players, places []int) {
	t.Helper()
	for _, told := range [][]fact{nil, full(frames)} {
		q := queue(t, frames, told...)
		for _, player := range players {
			for _, frame := range places {
				for _, in := range []uint16{0, 1, 2, 65535} {
					put(t, q, fact{player, frame, in}, api.ErrArg)
				}
			}
		}
		(&plain{frames, told}).answers(t, q)
	}
}

func TestPutOfWrongFrames(t *testing.T) {
	for _, frames := range []int{1, 2, 5, 600} {
		refuses(t, frames, []int{0, 1}, []int{math.MinInt, -1 << 32, -frames - 1, -frames, -2, -1, frames, frames + 1, 2 * frames, 601, 1 << 16, 1 << 32, 1<<32 + 1, math.MaxInt - 1, math.MaxInt})
	}
}

// A wrong player is told first, also where the input would be known so, or otherwise, and where the frame is wrong, too.
func TestPutOfWrongPlayers(t *testing.T) {
	for _, frames := range []int{1, 2, 5} {
		refuses(t, frames, noPlayers, someFrames(frames))
	}
}

func TestPutOfWhatIsKnown(t *testing.T) {
	some := []uint16{0, 1, 2, 255, 256, 32767, 32768, 65534, 65535}
	for _, x := range []fact{{0, 0, 0}, {1, 0, 0}, {0, 4, 0}, {1, 4, 0}, {0, 2, 0}, {1, 2, 0}} {
		for _, known := range some {
			q := queue(t, 5, fact{x.player, x.frame, known})
			for range 2 { // what was refused changed nothing: it is told the same again
				for _, in := range some {
					want := api.ErrOdd
					if in == known {
						want = api.ErrHas
					}
					put(t, q, fact{x.player, x.frame, in}, want)
					get(t, q, x.player, x.frame, known, true)
				}
			}
			(&plain{5, []fact{{x.player, x.frame, known}}}).answers(t, q)
		}
	}
}

// What is known of one player, or in one frame, is not known of another one.
func TestPutOfTheSameElsewhere(t *testing.T) {
	q := queue(t, 3, fact{0, 1, 7}, fact{1, 1, 7}, fact{0, 0, 7}, fact{1, 2, 7}, fact{1, 0, 8}, fact{0, 2, 8})
	knows(t, q, 3, 3, api.Pair{7, 8}, api.Pair{7, 7}, api.Pair{8, 7})
}

// A frame that was guessed right, or wrong, is told as any other one.
func TestPutOfWhatWasGuessed(t *testing.T) {
	q := queue(t, 4, fact{0, 0, 5})
	get(t, q, 0, 1, 5, false)
	put(t, q, fact{0, 1, 5}, api.OK)
	get(t, q, 0, 1, 5, true)
	get(t, q, 0, 2, 5, false)
	put(t, q, fact{0, 2, 6}, api.OK)
	get(t, q, 0, 2, 6, true)
	get(t, q, 0, 3, 6, false)
	put(t, q, fact{0, 3, 0}, api.OK)
	get(t, q, 0, 3, 0, true)
	get(t, q, 1, 0, 0, false)
	put(t, q, fact{1, 0, 0}, api.OK)
	get(t, q, 1, 0, 0, true)
	knows(t, q, 4, 1, api.Pair{5, 0})
}

// P12.2

func TestTheExample(t *testing.T) {
	for _, frames := range []int{3, 9, 10, 600} {
		q := queue(t, frames, fact{0, 0, 5}, fact{0, 2, 7})
		get(t, q, 0, 1, 5, false)
		get(t, q, 0, 9, 7, false)
		knows(t, q, 1, 0)
	}
}

func TestGuesses(t *testing.T) {
	for player := range 2 {
		q := queue(t, 9, fact{player, 6, 65535}, fact{player, 2, 7}, fact{player, 5, 0})
		for frame, x := range []struct {
			in uint16
			ok bool
		}{{0, false}, {0, false}, {7, true}, {7, false}, {7, false}, {0, true}, {65535, true}, {65535, false}, {65535, false}, {65535, false}, {65535, false}} {
			get(t, q, player, frame, x.in, x.ok)
			get(t, q, 1-player, frame, 0, false)
		}
		for _, frame := range []int{599, 600, 601, 1 << 16, 1 << 32, 1<<32 + 2, math.MaxInt - 1, math.MaxInt} {
			get(t, q, player, frame, 65535, false)
			get(t, q, 1-player, frame, 0, false)
		}
		for _, frame := range []int{-1, -2, -3, -9, -1 << 16, -1 << 32, math.MinInt + 1, math.MinInt} {
			get(t, q, player, frame, 0, false)
			get(t, q, 1-player, frame, 0, false)
		}
	}
}

// The guess is an input that is known, not one that was guessed ahead of that.
func TestGuessesGoWithWhatIsKnown(t *testing.T) {
	q := queue(t, 6, fact{1, 0, 3})
	get(t, q, 1, 4, 3, false)
	put(t, q, fact{1, 5, 9}, api.OK)
	get(t, q, 1, 4, 3, false)
	put(t, q, fact{1, 3, 8}, api.OK)
	get(t, q, 1, 4, 8, false)
	get(t, q, 1, 2, 3, false)
	put(t, q, fact{1, 1, 0}, api.OK)
	get(t, q, 1, 2, 0, false)
	get(t, q, 1, 4, 8, false)
	get(t, q, 1, 6, 9, false)
}

func TestGetOfNoPlayer(t *testing.T) {
	q := queue(t, 4, full(4)...)
	for _, player := range noPlayers {
		for _, frame := range someFrames(4) {
			get(t, q, player, frame, 0, false)
		}
		if n := q.Known(player); n != 0 {
			t.Errorf("Known(%d): got %d", player, n)
		}
	}
}

func TestKnownWithGaps(t *testing.T) {
	for player := range 2 {
		q := queue(t, 6)
		for _, x := range []struct{ frame, known int }{{1, 0}, {5, 0}, {0, 2}, {3, 2}, {2, 4}, {4, 6}} {
			put(t, q, fact{player, x.frame, 0}, api.OK)
			if n, other := q.Known(player), q.Known(1-player); n != x.known || other != 0 {
				t.Errorf("player %d, frame %d: Known %d, of the other one %d, want %d, 0", player, x.frame, n, other, x.known)
			}
			if n, l := q.Both(), q.Pairs(); n != 0 || len(l) != 0 {
				t.Errorf("player %d, frame %d: Both %d, Pairs %v", player, x.frame, n, l)
			}
		}
	}
}

func TestBothIsTheLesser(t *testing.T) {
	three, five := []uint16{10, 0, 12}, []uint16{20, 21, 0, 23, 65535}
	q := queue(t, 5, append(row(0, three...), row(1, five...)...)...)
	knows(t, q, 3, 5, api.Pair{10, 20}, api.Pair{0, 21}, api.Pair{12, 0})
	q = queue(t, 5, append(row(0, five...), row(1, three...)...)...)
	knows(t, q, 5, 3, api.Pair{20, 10}, api.Pair{21, 0}, api.Pair{0, 12})
	put(t, q, fact{1, 4, 14}, api.OK) // behind a gap
	knows(t, q, 5, 3, api.Pair{20, 10}, api.Pair{21, 0}, api.Pair{0, 12})
	put(t, q, fact{1, 3, 13}, api.OK)
	knows(t, q, 5, 5, api.Pair{20, 10}, api.Pair{21, 0}, api.Pair{0, 12}, api.Pair{23, 13}, api.Pair{65535, 14})
}

// Gaps of the two in different places.
func TestBothWithGaps(t *testing.T) {
	q := queue(t, 6, fact{0, 0, 1}, fact{0, 1, 2}, fact{0, 3, 4}, fact{1, 0, 5}, fact{1, 2, 6}, fact{1, 3, 7})
	knows(t, q, 2, 1, api.Pair{1, 5})
	put(t, q, fact{1, 1, 8}, api.OK)
	knows(t, q, 2, 4, api.Pair{1, 5}, api.Pair{2, 8})
	put(t, q, fact{0, 2, 9}, api.OK)
	knows(t, q, 4, 4, api.Pair{1, 5}, api.Pair{2, 8}, api.Pair{9, 6}, api.Pair{4, 7})
}

func TestAllFramesKnown(t *testing.T) {
	for _, frames := range []int{1, 2, 5, 599, 600} {
		q := queue(t, frames, full(frames)...)
		var want []api.Pair
		for frame := range frames {
			want = append(want, api.Pair{uint16(2*frame + 1), uint16(2*frame + 2)})
		}
		knows(t, q, frames, frames, want...)
		get(t, q, 0, frames, uint16(2*frames-1), false)
		get(t, q, 1, math.MaxInt, uint16(2*frames), false)
	}
}

func TestEachNumberKnown(t *testing.T) {
	for first := range 6 {
		for second := range 6 {
			a, b := []uint16{1, 2, 3, 4, 5}, []uint16{6, 7, 8, 9, 0}
			var want []api.Pair
			for i := range min(first, second) {
				want = append(want, api.Pair{a[i], b[i]})
			}
			knows(t, queue(t, 5, append(row(0, a[:first]...), row(1, b[:second]...)...)...), first, second, want...)
		}
	}
}
