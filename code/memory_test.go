package code_test

import (
	"bytes"
	"slices"
	"testing"

	"gauntlet/api"
	"gauntlet/code"
)

// P9.4

func TestThereAndBack(t *testing.T) {
	d := drawn(97)
	for range 5000 {
		l := d.program(d.length())
		b, e := code.Encode(l)
		if e != api.OK || !bytes.Equal(b, wantEncode(l)) {
			t.Fatalf("Encode(%v): got %x, %v", l, b, e)
		}
		if back, e := code.Decode(b); e != api.OK || !slices.Equal(back, l) {
			t.Fatalf("Decode(%x): got %v, %v, want %v", b, back, e, l)
		}
		s, e := code.Print(l)
		if e != api.OK || s != wantPrint(l) {
			t.Fatalf("Print(%v): got %q, %v", l, s, e)
		}
		if back, at, e := code.Parse(s); e != api.OK || at != 0 || !slices.Equal(back, l) {
			t.Fatalf("Parse(%q): got %v, %d, %v, want %v", s, back, at, e, l)
		}
	}
}

// Whatever bytes and texts are taken are those that are written: a program has but one form of each.
func TestBackAndThere(t *testing.T) {
	d := drawn(98)
	some := []byte{0, 1, 2, 4, 16, 18, 22, 23, 0x7f, 0x80, '\n', ' ', '0', '1', '-'}
	for range 20000 {
		l := d.program(d.below(6))
		b := d.turned(wantEncode(l), some)
		if back, e := code.Decode(b); e == api.OK {
			if again, e := code.Encode(back); e != api.OK || !bytes.Equal(again, b) {
				t.Fatalf("%x is taken, and written as %x, %v", b, again, e)
			}
		}
		s := string(d.turned([]byte(wantPrint(l)), some))
		if back, _, e := code.Parse(s); e == api.OK {
			again, e := code.Print(back)
			if e != api.OK || again != s && again != s+"\n" {
				t.Fatalf("%q is taken, and written as %q, %v", s, again, e)
			}
		}
	}
}

// roomy is a list with spare room that is full of something.
func roomy[T any](l []T, x T) []T {
	all := append(slices.Clone(l), slices.Repeat([]T{x}, 8)...)
	return all[:len(l)]
}

// spoil writes over an answer and the spare room behind it.
func spoil[T any](l []T, x T) {
	l = l[:cap(l)]
	for i := range l {
		l[i] = x
	}
}

var mark = api.Ins{Op: 77, Arg: 78}

func TestAProgramStaysAsItWas(t *testing.T) {
	for _, kept := range append(refused(), nil, allOps(), halts(256)) {
		l := roomy(kept, mark)
		code.Check(l)
		b, _ := code.Encode(l)
		again, _ := code.Encode(l)
		want := slices.Clone(again)
		s, _ := code.Print(l)
		spoil(b, 0xa5)
		if !bytes.Equal(again, want) {
			t.Errorf("two answers of Encode share memory")
		}
		if !slices.Equal(l, kept) || slices.ContainsFunc(l[len(l):cap(l)][:8], func(x api.Ins) bool { return x != mark }) {
			t.Errorf("what was handed in is another one: %v", kept)
		}
		spoil(l, mark)
		if !bytes.Equal(again, want) {
			t.Errorf("an answer of Encode goes with the list")
		}
		if next, _ := code.Print(kept); next != s {
			t.Errorf("an answer of Print is another one: %q, %q", s, next)
		}
	}
}

func TestBytesStayAsTheyWere(t *testing.T) {
	for _, kept := range [][]byte{nil, {0}, {1}, wantEncode(allOps()), wantEncode(allOps())[:9], wantEncode(halts(256))} {
		b := roomy(kept, 0x5a)
		l, _ := code.Decode(b)
		again, _ := code.Decode(b)
		want := slices.Clone(again)
		spoil(l, mark)
		if !bytes.Equal(b, kept) || !bytes.Equal(b[len(b):cap(b)][:8], bytes.Repeat([]byte{0x5a}, 8)) {
			t.Errorf("what was handed in is another one: %x", kept)
		}
		spoil(b, 0xa5)
		if !slices.Equal(again, want) {
			t.Errorf("an answer of Decode shares memory: %v", again)
		}
	}
}

func TestParsedProgramsShareNothing(t *testing.T) {
	s := wantPrint(allOps())
	l, _, _ := code.Parse(s)
	again, _, _ := code.Parse(s)
	spoil(l, mark)
	if !slices.Equal(again, allOps()) {
		t.Errorf("two answers of Parse share memory: %v", again)
	}
	if next, _, _ := code.Parse(s); !slices.Equal(next, allOps()) {
		t.Errorf("an answer of Parse is kept: %v", next)
	}
}
