package rollback_test

import (
	"testing"

	"gauntlet/api"
)

// P14.3: what is refused

func TestRemoteOfWrongFrames(t *testing.T) {
	for me := range 2 {
		for _, limit := range []int{1, 2, 8, 24, 25, 26, 599, 600} {
			s := session(t, game(t, adds, limit), me)
			for range 2 {
				for _, frame := range append([]int{limit, limit + 1}, farFrames...) {
					remote(t, s, frame, 0, api.ErrArg)
					remote(t, s, frame, 9, api.ErrArg)
				}
				local(t, s, 1, s.Now().Frame)
				if limit == 1 {
					break
				}
			}
		}
	}
}

func TestRemoteOfTheFirstAndTheLast(t *testing.T) {
	for me := range 2 {
		for limit := 1; limit <= 25; limit++ {
			s := session(t, game(t, adds, limit), me)
			remote(t, s, limit-1, 5, api.OK)
			remote(t, s, limit-1, 5, api.ErrHas)
			remote(t, s, limit-1, 0, api.ErrOdd)
			if limit > 1 {
				remote(t, s, 0, 5, api.OK)
			}
			remote(t, s, 0, 5, api.ErrHas)
		}
		for _, limit := range []int{26, 27, 600} {
			remote(t, session(t, game(t, adds, limit), me), limit-1, 5, api.ErrWindow)
		}
	}
}

// Behind the end nothing is told any more, whatever it is; but a frame that is none comes first.
func TestRemoteBehindTheEnd(t *testing.T) {
	for me := range 2 {
		for _, x := range []struct {
			text  string
			limit int
			end   int
		}{{adds, 1, 1}, {adds, 2, 2}, {adds, 30, 30}, {nines, 3, 3}, {nines, 40, 5}} {
			s := session(t, game(t, x.text, x.limit), me)
			for frame := range x.end {
				remote(t, s, frame, 4, api.OK)
				in := uint16(1)
				if frame == x.end-1 {
					in = 9
				}
				local(t, s, in, frame)
			}
			if sure := s.Sure(); !sure.Over || sure.Frame != x.end {
				t.Fatalf("Sure: %v", sure)
			}
			for frame := range x.limit { // known, not known, and too far ahead
				remote(t, s, frame, 4, api.ErrOver)
				remote(t, s, frame, 5, api.ErrOver)
			}
			for _, frame := range append([]int{x.limit}, farFrames...) {
				remote(t, s, frame, 4, api.ErrArg)
			}
		}
	}
}

// Over by a guess alone is no end: what was guessed can still be told.
func TestRemoteBehindAGuessedEnd(t *testing.T) {
	for me := range 2 {
		s := ahead(t, game(t, adds, 3), me, 3, 1)
		refuses(t, s, api.ErrOver)
		remote(t, s, 2, 0, api.OK)
		remote(t, s, 0, 0, api.OK)
		remote(t, s, 0, 0, api.ErrHas)
		remote(t, s, 2, 1, api.ErrOdd)
		remote(t, s, 1, 5, api.OK)
		last := over(sums(me, 3, 3, 5), 1-me)
		shows(t, s, last, last, 5, 1, 3)
		remote(t, s, 1, 5, api.ErrOver)
	}
}

func TestRemoteTooFarAhead(t *testing.T) {
	for me := range 2 {
		s := session(t, game(t, adds, 600), me)
		for sure := range 40 {
			for _, frame := range []int{sure + 25, sure + 26, sure + 40, 599} {
				remote(t, s, frame, 1, api.ErrWindow)
				remote(t, s, frame, 0, api.ErrWindow)
			}
			remote(t, s, sure+24, 1, api.OK)
			remote(t, s, sure+24, 1, api.ErrHas)
			remote(t, s, sure+24, 0, api.ErrOdd)
			if sure < 24 {
				remote(t, s, sure, 1, api.OK)
			}
			remote(t, s, sure+25, 1, api.ErrWindow) // known of the other one, but not yet played
			local(t, s, 1, sure)
			if n := s.Sure().Frame; n != sure+1 {
				t.Fatalf("Sure's Frame: %d, want %d", n, sure+1)
			}
		}
	}
}

// It is Sure's Frame that counts, not Now's.
func TestRemoteTooFarAheadOfSure(t *testing.T) {
	s := ahead(t, game(t, adds, 600), 0, 8, 1)
	remote(t, s, 25, 1, api.ErrWindow)
	remote(t, s, 24, 1, api.OK)
	remote(t, s, 2, 1, api.OK)
	remote(t, s, 1, 1, api.OK)
	remote(t, s, 25, 1, api.ErrWindow)
	remote(t, s, 0, 1, api.OK) // Sure is that of frame 3
	remote(t, s, 28, 1, api.ErrWindow)
	remote(t, s, 27, 1, api.OK)
}

func TestRemoteOfWhatIsKnown(t *testing.T) {
	for me := range 2 {
		s := ahead(t, game(t, adds, 50), me, 6, 1)
		known := map[int]uint16{0: 0, 1: 7, 3: 7, 4: 65535, 6: 2, 9: 0, 25: 3}
		for _, frame := range []int{0, 1, 3, 4, 6, 9, 25} {
			remote(t, s, frame, known[frame], api.OK)
		}
		for range 2 {
			for frame, in := range known {
				remote(t, s, frame, in, api.ErrHas)
				for _, other := range []uint16{in + 1, in - 1, in ^ 256, in ^ 32768} {
					remote(t, s, frame, other, api.ErrOdd)
				}
			}
		}
		remote(t, s, 2, 7, api.OK) // as it was guessed
		remote(t, s, 2, 7, api.ErrHas)
		remote(t, s, 5, 0, api.OK) // not as it was guessed
		remote(t, s, 5, 65535, api.ErrOdd)
	}
}

// P14.3 and P14.4: guesses that were right, and that were wrong

func TestExample(t *testing.T) {
	for me := range 2 {
		s := ahead(t, game(t, adds, 100), me, 2, 1)
		remote(t, s, 0, 5, api.OK)
		shows(t, s, sums(me, 2, 2, 10), sums(me, 1, 1, 5), 4, 1, 1)
		remote(t, s, 1, 5, api.OK)
		shows(t, s, sums(me, 2, 2, 10), sums(me, 2, 2, 10), 4, 1, 2)
	}
}

// Of six frames that are done each is told, and some behind them.
func TestOneWrongGuess(t *testing.T) {
	for me := range 2 {
		for frame := range 12 {
			s := ahead(t, game(t, adds, 50), me, 6, 1)
			remote(t, s, frame, 5, api.OK)
			anew, wrong := max(6-frame, 0), 0
			if anew > 0 {
				wrong = 1
			}
			sure, needs := sums(me, 0, 0, 0), 0
			if frame == 0 {
				sure, needs = sums(me, 1, 1, 5), 1
			}
			shows(t, s, sums(me, 6, 6, int32(5*anew)), sure, 6+anew, wrong, needs)
		}
	}
}

func TestOneRightGuess(t *testing.T) {
	for me := range 2 {
		for frame := range 12 {
			s := ahead(t, game(t, adds, 50), me, 6, 1)
			remote(t, s, frame, 0, api.OK)
			sure, needs := sums(me, 0, 0, 0), 0
			if frame == 0 {
				sure, needs = sums(me, 1, 1, 0), 1
			}
			shows(t, s, sums(me, 6, 6, 0), sure, 6, 0, needs)
		}
	}
}

// Frames are guessed by what is known below them alone.
func TestGuessesAmongWhatIsKnown(t *testing.T) {
	for me := range 2 {
		s := ahead(t, game(t, adds, 50), me, 6, 1)
		remote(t, s, 3, 4, api.OK) // 0 0 0 4 4 4
		shows(t, s, sums(me, 6, 6, 12), sums(me, 0, 0, 0), 9, 1, 0)
		remote(t, s, 1, 2, api.OK) // 0 2 2 4 4 4
		shows(t, s, sums(me, 6, 6, 16), sums(me, 0, 0, 0), 14, 2, 0)
		remote(t, s, 2, 2, api.OK) // as it was guessed
		shows(t, s, sums(me, 6, 6, 16), sums(me, 0, 0, 0), 14, 2, 0)
		remote(t, s, 4, 0, api.OK) // 0 2 2 4 0 0
		shows(t, s, sums(me, 6, 6, 8), sums(me, 0, 0, 0), 16, 3, 0)
		remote(t, s, 0, 1, api.OK) // 1 2 2 4 0 0
		shows(t, s, sums(me, 6, 6, 9), sums(me, 5, 5, 9), 22, 4, 5)
		remote(t, s, 5, 8, api.OK) // 1 2 2 4 0 8
		shows(t, s, sums(me, 6, 6, 17), sums(me, 6, 6, 17), 23, 5, 6)
	}
}

// What is told of frames that are not done yet is used when they are.
func TestToldAhead(t *testing.T) {
	for me := range 2 {
		s := session(t, game(t, adds, 50), me)
		remote(t, s, 2, 6, api.OK)
		remote(t, s, 1, 5, api.OK)
		shows(t, s, sums(me, 0, 0, 0), sums(me, 0, 0, 0), 0, 0, 0)
		local(t, s, 1, 0) // guessed as 0
		remote(t, s, 0, 4, api.OK)
		shows(t, s, sums(me, 1, 1, 4), sums(me, 1, 1, 4), 2, 1, 3)
		local(t, s, 1, 1)
		shows(t, s, sums(me, 2, 2, 9), sums(me, 2, 2, 9), 3, 1, 3)
		local(t, s, 1, 2)
		local(t, s, 1, 3)
		shows(t, s, sums(me, 4, 4, 21), sums(me, 3, 3, 15), 5, 1, 3)
	}
}

// Stepped anew till it is over: what stands behind is not stepped, and is no guess that was used.
func TestAnewTillItIsOver(t *testing.T) {
	for me := range 2 {
		s := ahead(t, game(t, nines, 50), me, 6, 1)
		remote(t, s, 2, 9, api.OK)
		shows(t, s, over(sums(me, 3, 3, 9), 2), sums(me, 0, 0, 0), 7, 1, 0)
		remote(t, s, 3, 4, api.OK) // the first frame behind it
		remote(t, s, 5, 8, api.OK) // the last that was done
		shows(t, s, over(sums(me, 3, 3, 9), 2), sums(me, 0, 0, 0), 7, 1, 0)
		remote(t, s, 1, 3, api.OK)
		shows(t, s, over(sums(me, 3, 3, 12), 2), sums(me, 0, 0, 0), 9, 2, 0)
		remote(t, s, 0, 0, api.OK) // all is known up to the end, and some behind it
		shows(t, s, over(sums(me, 3, 3, 12), 2), over(sums(me, 3, 3, 12), 2), 9, 2, 4)
		remote(t, s, 4, 4, api.ErrOver)
	}
}

// Over by a guess, and no more when the guess is put right: up to all that this player did.
func TestOverNoMore(t *testing.T) {
	for me := range 2 {
		s := ahead(t, game(t, forty, 50), me, 6, 0)
		remote(t, s, 0, 10, api.OK) // guessed from then on
		shows(t, s, over(sums(me, 4, 0, 40), 2), sums(me, 1, 0, 10), 10, 1, 1)
		refuses(t, s, api.ErrOver)
		remote(t, s, 5, 3, api.OK) // behind what is over
		shows(t, s, over(sums(me, 4, 0, 40), 2), sums(me, 1, 0, 10), 10, 1, 1)
		remote(t, s, 2, 10, api.OK) // as it was guessed
		shows(t, s, over(sums(me, 4, 0, 40), 2), sums(me, 1, 0, 10), 10, 1, 1)
		remote(t, s, 3, 1, api.OK) // 10 10 10 1 1 3
		shows(t, s, sums(me, 6, 0, 35), sums(me, 1, 0, 10), 13, 2, 1)
		local(t, s, 0, 6)
		shows(t, s, sums(me, 7, 0, 38), sums(me, 1, 0, 10), 14, 2, 1)
		remote(t, s, 1, 17, api.OK) // 10 17 10 1 1 3
		shows(t, s, over(sums(me, 6, 0, 42), 2), sums(me, 4, 0, 38), 19, 3, 4)
		remote(t, s, 4, 0, api.OK)
		last := over(sums(me, 6, 0, 41), 2)
		shows(t, s, last, last, 21, 4, 6)
		remote(t, s, 6, 0, api.ErrOver)
		refuses(t, s, api.ErrOver)
	}
}

// Over by one guess, and by another one in a later frame, with the last frame among them.
func TestOverElsewhere(t *testing.T) {
	for me := range 2 {
		s := ahead(t, game(t, forty, 8), me, 5, 1)
		remote(t, s, 0, 19, api.OK)
		shows(t, s, over(sums(me, 2, 2, 38), 2), sums(me, 1, 1, 19), 7, 1, 1)
		remote(t, s, 1, 9, api.OK) // 19 9 9
		shows(t, s, over(sums(me, 3, 3, 37), 2), sums(me, 2, 2, 28), 9, 2, 2)
		remote(t, s, 2, 0, api.OK)
		shows(t, s, sums(me, 5, 5, 28), sums(me, 3, 3, 28), 12, 3, 3)
		for frame := 5; frame < 8; frame++ {
			local(t, s, 1, frame)
		}
		shows(t, s, over(sums(me, 8, 8, 28), 1-me), sums(me, 3, 3, 28), 15, 3, 3)
		remote(t, s, 7, 1, api.OK)
		shows(t, s, over(sums(me, 8, 8, 29), 1-me), sums(me, 3, 3, 28), 16, 4, 3)
		hears(t, s, 3, 0, 0, 0, 0)
		last := over(sums(me, 8, 8, 29), 1-me)
		shows(t, s, last, last, 16, 4, 8)
	}
}

// P14.4

func TestNeeds(t *testing.T) {
	for me := range 2 {
		s := session(t, game(t, adds, 6), me)
		for _, x := range []struct{ frame, needs int }{{1, 0}, {5, 0}, {0, 2}, {3, 2}, {2, 4}, {4, 6}} {
			remote(t, s, x.frame, 0, api.OK)
			if n := s.Needs(); n != x.needs {
				t.Errorf("behind frame %d: Needs %d, want %d", x.frame, n, x.needs)
			}
		}
		for frame := range 6 { // what this player does changes nothing of it
			local(t, s, 1, frame)
			if n := s.Needs(); n != 6 {
				t.Errorf("all is known: Needs %d, want 6", n)
			}
		}
	}
}

// Sure goes over many frames at once, and takes no Step.
func TestSureTakesNoStep(t *testing.T) {
	for me := range 2 {
		s := ahead(t, game(t, adds, 50), me, 8, 1)
		for frame := 7; frame > 0; frame-- {
			remote(t, s, frame, 0, api.OK)
			shows(t, s, sums(me, 8, 8, 0), sums(me, 0, 0, 0), 8, 0, 0)
		}
		remote(t, s, 0, 0, api.OK)
		for range 3 {
			shows(t, s, sums(me, 8, 8, 0), sums(me, 8, 8, 0), 8, 0, 8)
		}
		for frame := 8; frame < 16; frame++ {
			remote(t, s, frame, 1, api.OK)
			local(t, s, 1, frame)
			both := sums(me, frame+1, int32(frame+1), int32(frame-7))
			shows(t, s, both, both, frame+1, 0, frame+1)
		}
	}
}

// The first frame of eight is wrong each time, as far ahead as can be, through the whole game.
func TestWrongAtTheFarthest(t *testing.T) {
	for me := range 2 {
		s := ahead(t, game(t, adds, 600), me, 8, 1)
		sum, steps := int32(0), 8
		for frame := range 600 {
			in := uint16(1 + frame%2)
			remote(t, s, frame, in, api.OK)
			sum, steps = sum+int32(in), steps+min(8, 600-frame)
			x := ask(s)
			if x.sure.Cells[1-me] != sum || x.sure.Frame != frame+1 || x.steps != steps || x.wrong != frame+1 || x.needs != frame+1 {
				t.Fatalf("frame %d: %v", frame, x)
			}
			if frame+8 < 600 {
				local(t, s, 1, frame+8)
				steps++
			}
		}
		last := over(sums(me, 600, 600, 900), 1-me)
		shows(t, s, last, last, steps, 600, 600)
	}
}
