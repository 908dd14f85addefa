package vm_test

import (
	"bytes"
	"slices"
	"testing"

	"gauntlet/api"
	"gauntlet/vm"
)

// P10.5

func TestThereAndBack(t *testing.T) {
	d := drawn(15)
	for range 20000 {
		s := d.state()
		b := vm.Encode(s)
		if back, e := vm.Decode(b); back != s || e != api.OK {
			t.Fatalf("Decode of Encode of %v: %v, %v", s, back, e)
		}
	}
}

// What Step answers is a state again, up to the end of a game.
func TestStepsThereAndBack(t *testing.T) {
	d := drawn(16)
	for range 300 {
		g := d.game()
		s := vm.Start(uint32(d.number()))
		for frame := 0; !s.Over; frame++ {
			if back, e := vm.Decode(vm.Encode(s)); back != s || e != api.OK || s.Frame != frame || frame >= g.Cap {
				t.Fatalf("frame %d of %v: %v, %v, %v", frame, g, s, back, e)
			}
			s = steps(t, g, s, d.pair())
		}
		if back, e := vm.Decode(vm.Encode(s)); back != s || e != api.OK {
			t.Fatalf("the end of %v: %v, %v, %v", g, s, back, e)
		}
		refuses(t, g, s, api.ErrOver)
	}
}

func TestTheSameTwice(t *testing.T) {
	d := drawn(17)
	type call struct {
		g    api.Game
		s    api.State
		in   api.Pair
		next api.State
		e    api.Errno
		h    api.Hash
	}
	var calls []call
	for range 500 {
		c := call{g: d.game(), s: d.state(), in: d.pair()}
		c.next, c.e = vm.Step(c.g, c.s, c.in)
		c.h = vm.Hash(c.s)
		calls = append(calls, c)
	}
	for range 2 {
		slices.Reverse(calls)
		for _, c := range calls {
			vm.Step(c.g, c.next, c.in)
			vm.Check(api.Game{Code: make([]api.Ins, 300)})
			if next, e := vm.Step(c.g, c.s, c.in); next != c.next || e != c.e {
				t.Fatalf("Step(%v, %v, %v): first %v, %v, then %v, %v", c.g, c.s, c.in, c.next, c.e, next, e)
			}
			if h := vm.Hash(c.s); h != c.h {
				t.Fatalf("Hash(%v): first %x, then %x", c.s, c.h, h)
			}
		}
	}
}

// roomy is a list with spare room that is full of something.
func roomy[T any](l []T, x T) []T {
	all := append(slices.Clone(l), slices.Repeat([]T{x}, 8)...)
	return all[:len(l)]
}

// spared tells whether a list that roomy made is as it was, and its spare room, too.
func spared[T comparable](l, kept []T, x T) bool {
	return slices.Equal(l, kept) && slices.Equal(l[len(l):cap(l)][:8], slices.Repeat([]T{x}, 8))
}

func TestAGameStaysAsItWas(t *testing.T) {
	mark := api.Ins{Op: 77, Arg: 78}
	d := drawn(18)
	programs := [][]api.Ins{nil, make([]api.Ins, 257), {{Op: 99}}, takes(2000), takes(2001)}
	for range 200 {
		programs = append(programs, d.program(d.below(40)))
	}
	for _, kept := range programs {
		g := api.Game{Code: roomy(kept, mark), Cap: 1 + d.below(9), Fuel: 2000}
		s := before(d.below(3))
		was, in := s, d.pair()
		vm.Check(g)
		next, e := vm.Step(g, s, in)
		if !spared(g.Code, kept, mark) || s != was {
			t.Fatalf("what was handed in is another one: %v", kept)
		}
		// Nothing of the list is kept: another program in its place is done as itself.
		other := api.Game{Code: slices.Clone(kept), Cap: g.Cap, Fuel: g.Fuel}
		for i := range g.Code {
			g.Code[i] = api.Ins{Op: api.OpHalt}
		}
		if again, e2 := vm.Step(other, s, in); again != next || e2 != e {
			t.Fatalf("the answer goes with the list: %v", kept)
		}
		want, wantErr := wantStep(g, s, in)
		if got, e := vm.Step(g, s, in); got != want || e != wantErr {
			t.Fatalf("the list was kept: got %v, %v, want %v, %v", got, e, want, wantErr)
		}
	}
}

func TestBytesStayAsTheyWere(t *testing.T) {
	whole := wantEncode(before(300))
	for _, kept := range [][]byte{nil, {0}, whole, whole[:40], append(slices.Clone(whole), 1), wantEncode(api.State{Frame: -1})} {
		b := roomy(kept, 0x5a)
		s, e := vm.Decode(b)
		if !spared(b, kept, 0x5a) {
			t.Errorf("what was handed in is another one: %x", kept)
		}
		if again, e2 := vm.Decode(b); again != s || e2 != e {
			t.Errorf("Decode(%x): first %v, %v, then %v, %v", kept, s, e, again, e2)
		}
	}
}

func TestEncodedBytesShareNothing(t *testing.T) {
	s := before(300)
	first, second := vm.Encode(s), vm.Encode(s)
	first = first[:cap(first)]
	for i := range first {
		first[i] = 0xa5
	}
	if !bytes.Equal(second, wantEncode(s)) || !bytes.Equal(vm.Encode(s), wantEncode(s)) {
		t.Errorf("two answers of Encode share memory")
	}
}
