package vm_test

import (
	"bytes"
	"crypto/sha256"
	"encoding/binary"
	"math"
	"slices"
	"testing"

	"gauntlet/api"
	"gauntlet/digest"
	"gauntlet/vm"
)

// P10.4

// wantEncode is by the library: its Varint lays a number as Num does.
func wantEncode(s api.State) []byte {
	b := binary.AppendVarint(nil, int64(s.Frame))
	for _, c := range s.Cells {
		b = binary.LittleEndian.AppendUint32(b, uint32(c))
	}
	b = binary.LittleEndian.AppendUint32(b, s.Seed)
	over := byte(0)
	if s.Over {
		over = 1
	}
	return append(b, over, byte(uint64(s.Winner)))
}

// someStates is states at their edges; Step would refuse those with a Seed of 0.
func someStates() []api.State {
	l := []api.State{{}, vm.Start(0), vm.Start(9), {Frame: 600}, {Seed: math.MaxUint32}, {Over: true}, before(300)}
	for _, frame := range []int{0, 1, 63, 64, 65, 599, 600} {
		for winner := range 3 {
			l = append(l, api.State{Frame: frame, Seed: 0x01020304, Over: true, Winner: winner})
		}
		s := before(frame)
		for i := range s.Cells {
			s.Cells[i] = ends[len(ends)-1-i]
		}
		l = append(l, s)
	}
	return l
}

func TestEncode(t *testing.T) {
	s := api.State{Frame: 300, Seed: 0x01020304, Over: true, Winner: 2}
	s.Cells[0], s.Cells[1], s.Cells[15] = 0x0a0b0c0d, -2, least
	want := slices.Concat([]byte{0xd8, 0x04, 0x0d, 0x0c, 0x0b, 0x0a, 0xfe, 0xff, 0xff, 0xff}, make([]byte, 13*4), []byte{0, 0, 0, 0x80, 4, 3, 2, 1, 1, 2})
	if b := vm.Encode(s); !bytes.Equal(b, want) {
		t.Errorf("got %x, want %x", b, want)
	}
	for _, s := range slices.Concat(someStates(), noStates) {
		if b := vm.Encode(s); !bytes.Equal(b, wantEncode(s)) {
			t.Errorf("Encode(%v): got %x, want %x", s, b, wantEncode(s))
		}
	}
}

func decodes(t *testing.T, p []byte, want api.State, wantErr api.Errno) {
	t.Helper()
	if s, e := vm.Decode(p); s != want || e != wantErr {
		t.Errorf("Decode(%x): got %v, %v, want %v, %v", p, s, e, want, wantErr)
	}
}

func TestDecode(t *testing.T) {
	for _, s := range someStates() {
		b := wantEncode(s)
		decodes(t, b, s, api.OK)
		for n := range b {
			decodes(t, b[:n], api.State{}, api.ErrShort)
		}
		decodes(t, append(slices.Clone(b), 0), api.State{}, api.ErrForm)
		decodes(t, slices.Concat(b, b), api.State{}, api.ErrForm)
	}
	decodes(t, nil, api.State{}, api.ErrShort)
	decodes(t, []byte{}, api.State{}, api.ErrShort)
}

func TestDecodeOfWhatIsNoState(t *testing.T) {
	for _, s := range noStates {
		b := wantEncode(s)
		for n := range b {
			decodes(t, b[:n], api.State{}, api.ErrShort)
		}
		if s.Winner < 0 || s.Winner > 255 {
			continue // another Winner was laid
		}
		decodes(t, b, api.State{}, api.ErrForm)
		decodes(t, append(b, 0), api.State{}, api.ErrForm)
	}
	// Seed 0 is Step's own matter.
	decodes(t, wantEncode(api.State{Frame: 2}), api.State{Frame: 2}, api.OK)
}

func TestBytesOfOverAndWinner(t *testing.T) {
	b := wantEncode(vm.Start(7))
	for over := range 256 {
		for winner := range 256 {
			b[len(b)-2], b[len(b)-1] = byte(over), byte(winner)
			want, e := vm.Start(7), api.OK
			want.Over, want.Winner = over == 1, winner
			if over > 1 || winner > 2 || over == 0 && winner > 0 {
				want, e = api.State{}, api.ErrForm
			}
			decodes(t, b, want, e)
		}
		b[len(b)-2] = byte(over)
		decodes(t, b[:len(b)-1], api.State{}, api.ErrShort)
	}
}

func TestBytesOfFrame(t *testing.T) {
	rest := wantEncode(vm.Start(7))[1:]
	for _, wrong := range [][]byte{
		{0x80, 0x00}, {0x82, 0x80, 0x00},
		{0xff, 0xff, 0xff, 0xff, 0xff, 0xff, 0xff, 0xff, 0xff, 0x02},
		{0xff, 0xff, 0xff, 0xff, 0xff, 0xff, 0xff, 0xff, 0xff, 0x80, 0x00},
		{0xff, 0xff, 0xff, 0xff, 0xff, 0xff, 0xff, 0xff, 0xff, 0x01},
		{0xfe, 0xff, 0xff, 0xff, 0xff, 0xff, 0xff, 0xff, 0xff, 0x01},
		{0x01}, {0xb2, 0x09},
	} {
		decodes(t, slices.Concat(wrong, rest), api.State{}, api.ErrForm)
	}
	// A Num that is none is told where it stands, ahead of what lacks behind it; a Frame that is none only behind all.
	decodes(t, []byte{0x80, 0x00}, api.State{}, api.ErrForm)
	decodes(t, []byte{0x01}, api.State{}, api.ErrShort)
	decodes(t, slices.Concat([]byte{0xb0, 0x09}, rest), api.State{Frame: 600, Seed: 7}, api.OK)
}

func TestHash(t *testing.T) {
	for _, s := range slices.Concat(someStates(), noStates) {
		if h := vm.Hash(s); h != api.Hash(sha256.Sum256(wantEncode(s))) || h != digest.Sum(vm.Encode(s)) {
			t.Errorf("Hash(%v): %x", s, h)
		}
	}
}

// wantDecode is P10.4 by the library's Uvarint for the Num.
func wantDecode(p []byte) (api.State, api.Errno) {
	u, n := binary.Uvarint(p)
	switch {
	case n < 0:
		return api.State{}, api.ErrForm
	case n == 0 && len(p) < 10:
		return api.State{}, api.ErrShort
	case n == 0 || n > 1 && p[n-1] == 0:
		return api.State{}, api.ErrForm
	case len(p)-n < 70:
		return api.State{}, api.ErrShort
	case len(p)-n > 70:
		return api.State{}, api.ErrForm
	}
	if u&1 == 1 || u > 1200 {
		return api.State{}, api.ErrForm
	}
	p = p[n:]
	s := api.State{Frame: int(u / 2), Seed: binary.LittleEndian.Uint32(p[64:]), Over: p[68] == 1, Winner: int(p[69])}
	for i := range s.Cells {
		s.Cells[i] = int32(binary.LittleEndian.Uint32(p[4*i:]))
	}
	if p[68] > 1 || !wantState(s) {
		return api.State{}, api.ErrForm
	}
	return s, api.OK
}

func TestAnyBytes(t *testing.T) {
	d := drawn(14)
	some := []byte{0, 1, 2, 3, 0x7f, 0x80, 0xff, 0xb0, 0xb2, 9}
	taken := 0
	for range 60000 {
		p := wantEncode(d.state())
		for range d.below(4) {
			at := []int{d.below(len(p)), d.below(3), len(p) - 1 - d.below(3)}[d.below(3)]
			p[at] = some[d.below(len(some))]
		}
		switch d.below(8) {
		case 0:
			p = p[:d.below(len(p))]
		case 1:
			p = append(p, some[d.below(len(some))])
		case 2:
			p = append(bytes.Repeat([]byte{0xff}, d.below(12)), p...)
		}
		s, e := wantDecode(p)
		decodes(t, p, s, e)
		if t.Failed() {
			return
		}
		if e == api.OK {
			taken++
			if b := vm.Encode(s); !bytes.Equal(b, p) {
				t.Fatalf("%x is taken, and laid as %x", p, b)
			}
		}
	}
	if taken < 5000 {
		t.Errorf("only %d were taken", taken)
	}
}

func FuzzDecode(f *testing.F) {
	for _, s := range someStates() {
		f.Add(wantEncode(s))
	}
	f.Fuzz(func(t *testing.T, p []byte) {
		s, e := wantDecode(p)
		decodes(t, p, s, e)
	})
}
