package ring_test

import (
	"math"
	"testing"

	"gauntlet/api"
	"gauntlet/ring"
)

// at is a state of a frame, other than that of any other frame.
func at(frame int) api.State {
	return api.State{Frame: frame, Cells: [16]int32{int32(frame), 15: -7}, Seed: uint32(frame + 1)}
}

// other is a state of the same frame, and another one.
func other(frame int) api.State {
	return api.State{Frame: frame, Cells: [16]int32{-9, 1 << 30}, Seed: 99, Over: true, Winner: 2}
}

// empty is one with room for so many.
func empty(t *testing.T, n int) *ring.Ring {
	t.Helper()
	r, e := ring.New(n)
	if r == nil || e != api.OK {
		t.Fatalf("New(%d): got %v, %v", n, r, e)
	}
	return r
}

// filled is one with room for so many, behind a Put of each frame from one to another.
func filled(t *testing.T, n, from, to int) *ring.Ring {
	t.Helper()
	r := empty(t, n)
	for frame := from; frame <= to; frame++ {
		put(t, r, at(frame), api.OK)
	}
	return r
}

func put(t *testing.T, r *ring.Ring, s api.State, want api.Errno) {
	t.Helper()
	if e := r.Put(s); e != want {
		t.Fatalf("Put(%v): got %v, want %v", s, e, want)
	}
}

func get(t *testing.T, r *ring.Ring, frame int, want api.State, wantOK bool) {
	t.Helper()
	if s, ok := r.Get(frame); s != want || ok != wantOK {
		t.Fatalf("Get(%d): got %v, %v, want %v, %v", frame, s, ok, want, wantOK)
	}
}

func newest(t *testing.T, r *ring.Ring, want api.State, wantOK bool) {
	t.Helper()
	if s, ok := r.Newest(); s != want || ok != wantOK {
		t.Fatalf("Newest: got %v, %v, want %v, %v", s, ok, want, wantOK)
	}
}

func frames(t *testing.T, r *ring.Ring, least, greatest int) {
	t.Helper()
	if a, b := r.Frames(); a != least || b != greatest {
		t.Fatalf("Frames: got %d, %d, want %d, %d", a, b, least, greatest)
	}
}

// has tells whether these states are there, and nothing else.
func has(t *testing.T, r *ring.Ring, there ...api.State) {
	t.Helper()
	(&plain{there: there}).answers(t, r)
}

// P13.1: New

func TestNewOfWrongNumbers(t *testing.T) {
	for _, n := range []int{math.MinInt, -1 << 32, -1<<32 + 1, -256, -255, -2, -1, 0, 257, 258, 512, 600, 1 << 16, 1<<16 + 1, 1 << 32, 1<<32 + 1, 1<<32 + 256, math.MaxInt - 1, math.MaxInt} {
		if r, e := ring.New(n); r != nil || e != api.ErrArg {
			t.Errorf("New(%d): got %v, %v, want nothing, %v", n, r, e, api.ErrArg)
		}
	}
}

func TestRoomOfEachNumber(t *testing.T) {
	for n := 1; n <= 256; n++ {
		r := empty(t, n)
		frames(t, r, -1, -1)
		for frame := range n {
			put(t, r, at(frame), api.OK)
			frames(t, r, 0, frame)
		}
		for frame := n; frame < n+3; frame++ { // one more than there is room for
			put(t, r, at(frame), api.OK)
			frames(t, r, frame-n+1, frame)
		}
		for frame := 3; frame < n+3; frame++ {
			get(t, r, frame, at(frame), true)
		}
		get(t, r, 2, api.State{}, false)
	}
}

// P13.1: which frames are taken

func TestTheFirstOfAnyFrame(t *testing.T) {
	for _, n := range []int{1, 2, 3, 7, 255, 256} {
		for frame := range 601 {
			r := empty(t, n)
			put(t, r, at(frame), api.OK)
			frames(t, r, frame, frame)
			newest(t, r, at(frame), true)
			get(t, r, frame, at(frame), true)
			get(t, r, frame-1, api.State{}, false)
			get(t, r, frame+1, api.State{}, false)
		}
	}
}

func TestFramesBehindTheFirst(t *testing.T) {
	for _, x := range []struct {
		name  string
		frame int
		want  api.Errno
		there []api.State // behind it
	}{
		{"1 above the greatest", 13, api.OK, []api.State{at(10), at(11), at(12), other(13)}},
		{"the greatest", 12, api.OK, []api.State{at(9), at(10), at(11), other(12)}},
		{"1 below it", 11, api.OK, []api.State{at(9), at(10), other(11)}},
		{"1 above the least", 10, api.OK, []api.State{at(9), other(10)}},
		{"the least", 9, api.OK, []api.State{other(9)}},
		{"1 below the least, that was there", 8, api.ErrArg, nil},
		{"the first that was there", 5, api.ErrArg, nil},
		{"below all that were there", 4, api.ErrArg, nil},
		{"0", 0, api.ErrArg, nil},
		{"2 above the greatest", 14, api.ErrArg, nil},
		{"3 above the greatest", 15, api.ErrArg, nil},
		{"n above the greatest", 16, api.ErrArg, nil},
		{"n above 1 above the greatest", 17, api.ErrArg, nil},
		{"the greatest of a state", 600, api.ErrArg, nil},
	} {
		t.Run(x.name, func(t *testing.T) {
			r := filled(t, 4, 5, 12)
			has(t, r, at(9), at(10), at(11), at(12))
			put(t, r, other(x.frame), x.want)
			if x.want != api.OK {
				x.there = []api.State{at(9), at(10), at(11), at(12)}
			}
			has(t, r, x.there...)
		})
	}
}

// Where there is still room, the least stays, and below it nothing is taken.
func TestFramesWhereThereIsRoom(t *testing.T) {
	for frame := range 20 {
		r := filled(t, 8, 5, 7)
		switch {
		case frame < 5 || frame > 8:
			put(t, r, other(frame), api.ErrArg)
			has(t, r, at(5), at(6), at(7))
		default:
			put(t, r, other(frame), api.OK)
			has(t, r, append([]api.State{at(5), at(6), at(7)}[:frame-5:frame-5], other(frame))...)
		}
	}
}

func TestRoomForOne(t *testing.T) {
	r := filled(t, 1, 3, 3)
	put(t, r, other(3), api.OK)
	has(t, r, other(3))
	put(t, r, at(4), api.OK)
	has(t, r, at(4))
	for _, frame := range []int{0, 2, 3, 6, 7} {
		put(t, r, at(frame), api.ErrArg)
		has(t, r, at(4))
	}
	put(t, r, other(5), api.OK)
	has(t, r, other(5))
}

// The last frame that a state can have is the last one that is taken.
func TestUpToTheLastFrame(t *testing.T) {
	for _, n := range []int{1, 2, 256} {
		r := filled(t, n, 0, 600)
		frames(t, r, 601-n, 600)
		put(t, r, at(601), api.ErrArg)
		frames(t, r, 601-n, 600)
		put(t, r, other(600), api.OK)
		newest(t, r, other(600), true)
		put(t, r, at(601-n), api.OK)
		has(t, r, at(601-n))
	}
}

// P13.1: what is no state

func TestWhatIsNoState(t *testing.T) {
	var l []api.State
	for _, frame := range farFrames {
		l = append(l, at(frame), other(frame))
	}
	for _, winner := range []int{math.MinInt, -1 << 32, -256, -255, -2, -1, 3, 4, 255, 256, 257, 258, 1 << 16, 1 << 32, 1<<32 + 2, math.MaxInt} {
		l = append(l, api.State{Frame: 6, Over: true, Winner: winner}, api.State{Frame: 6, Winner: winner})
	}
	for _, winner := range []int{1, 2} {
		l = append(l, api.State{Frame: 6, Seed: 1, Winner: winner})
	}
	for _, s := range l {
		r := empty(t, 3)
		put(t, r, s, api.ErrArg) // not as the first one
		has(t, r)
		put(t, r, at(4), api.OK)
		put(t, r, at(5), api.OK)
		put(t, r, s, api.ErrArg) // nor where its Frame could be taken
		has(t, r, at(4), at(5))
		put(t, r, at(6), api.OK)
		put(t, r, s, api.ErrArg) // nor in the place of another
		has(t, r, at(4), at(5), at(6))
	}
}

// Step wants a Seed, and takes none that is over: a state is one all the same.
func TestWhatIsAState(t *testing.T) {
	for _, s := range []api.State{
		{},
		{Frame: 600},
		{Seed: math.MaxUint32},
		{Over: true},
		{Over: true, Winner: 1},
		{Over: true, Winner: 2},
		{Frame: 600, Over: true, Winner: 2, Seed: 1 << 31},
		{Cells: [16]int32{math.MinInt32, math.MaxInt32, -1, 15: math.MinInt32}},
	} {
		r := empty(t, 2)
		put(t, r, s, api.OK)
		has(t, r, s)
	}
}

// P13.1: what is forgotten

func TestForgottenAbove(t *testing.T) {
	r := filled(t, 6, 0, 5)
	put(t, r, other(2), api.OK)
	has(t, r, at(0), at(1), other(2))
	for _, frame := range []int{4, 5, 6} { // these were there, and would leave a gap
		put(t, r, at(frame), api.ErrArg)
	}
	has(t, r, at(0), at(1), other(2))
	put(t, r, other(3), api.OK)
	has(t, r, at(0), at(1), other(2), other(3))
}

// What was forgotten at the lower end does not come back where the upper end is.
func TestForgottenBelow(t *testing.T) {
	r := filled(t, 3, 0, 7)
	has(t, r, at(5), at(6), at(7))
	put(t, r, other(5), api.OK)
	has(t, r, other(5))
	for _, frame := range []int{2, 3, 4, 7, 8} {
		put(t, r, at(frame), api.ErrArg)
		has(t, r, other(5))
	}
	put(t, r, at(6), api.OK)
	put(t, r, at(7), api.OK)
	has(t, r, other(5), at(6), at(7))
	put(t, r, at(8), api.OK)
	has(t, r, at(6), at(7), at(8))
}

// A state that is there already is laid anew, and forgets those above it.
func TestTheSameAgain(t *testing.T) {
	r := filled(t, 4, 0, 3)
	put(t, r, at(3), api.OK)
	has(t, r, at(0), at(1), at(2), at(3))
	put(t, r, at(1), api.OK)
	has(t, r, at(0), at(1))
	put(t, r, at(0), api.OK)
	put(t, r, at(0), api.OK)
	has(t, r, at(0))
}

// P13.2

func TestExample(t *testing.T) {
	r := filled(t, 2, 0, 2)
	put(t, r, at(1), api.OK)
	frames(t, r, 1, 1)
	has(t, r, at(1))
}

func TestNothingThere(t *testing.T) {
	for _, n := range []int{1, 2, 255, 256} {
		r := empty(t, n)
		frames(t, r, -1, -1)
		newest(t, r, api.State{}, false)
		for frame := -3; frame < 603; frame++ {
			get(t, r, frame, api.State{}, false)
		}
		has(t, r)
	}
}

// Frame 0 is a frame as any other: it is not taken for none.
func TestFrameZero(t *testing.T) {
	for _, n := range []int{1, 2, 256} {
		r := empty(t, n)
		put(t, r, api.State{}, api.OK)
		frames(t, r, 0, 0)
		newest(t, r, api.State{}, true)
		get(t, r, 0, api.State{}, true)
		has(t, r, api.State{})
	}
}

func TestWhatIsThere(t *testing.T) {
	for _, n := range []int{1, 2, 3, 5, 16, 255, 256} {
		for _, from := range []int{0, 1, 2, n - 1, n, n + 1, 300} {
			for _, many := range []int{1, 2, n - 1, n, n + 1, 2 * n, 2*n + 1} {
				to := min(from+many-1, 600)
				if to < from {
					continue
				}
				r := filled(t, n, from, to)
				var want []api.State
				for frame := max(from, to-n+1); frame <= to; frame++ {
					want = append(want, at(frame))
				}
				frames(t, r, want[0].Frame, to)
				newest(t, r, at(to), true)
				has(t, r, want...)
			}
		}
	}
}

// Frames whose remainder is that of one that is there are not there.
func TestSameRemainder(t *testing.T) {
	for _, n := range []int{1, 2, 3, 10, 256} {
		r := filled(t, n, 300, 300+n-1)
		for frame := 300; frame < 300+n; frame++ {
			get(t, r, frame, at(frame), true)
			for _, far := range []int{frame - 300/n*n - n, frame - n, frame + n, frame + 1000*n, frame + n<<32, frame - n<<40} {
				get(t, r, far, api.State{}, false)
			}
		}
	}
}

// Of states that are forgotten nothing is told, by whichever frame.
func TestNewestBehindForgotten(t *testing.T) {
	r := filled(t, 5, 0, 20)
	for frame := 20; frame >= 16; frame-- {
		put(t, r, other(frame), api.OK)
		newest(t, r, other(frame), true)
		frames(t, r, 16, frame)
		for above := frame + 1; above < 27; above++ {
			get(t, r, above, api.State{}, false)
		}
		for below := 16; below < frame; below++ {
			get(t, r, below, at(below), true)
		}
	}
	put(t, r, other(15), api.ErrArg)
	has(t, r, other(16))
}
