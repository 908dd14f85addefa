package vm

import (
	"gauntlet/api"
	"gauntlet/digest"
	"gauntlet/octet"
)

// Hash is a state's digest.
func Hash(s api.State) api.Hash { return digest.Sum(Encode(s)) }

// Encode is a state as bytes.
func Encode(s api.State) []byte {
	var w octet.Writer
	w.Num(s.Frame)
	for _, c := range s.Cells {
		w.Four(uint32(c))
	}
	w.Four(s.Seed)
	w.Byte(flag(s.Over))
	w.Byte(byte(s.Winner)) // of what is no state the lowest digits: no more can be laid
	return w.Out()
}

// Decode is the way back.
func Decode(p []byte) (api.State, api.Errno) {
	r := octet.NewReader(p)
	s := api.State{Frame: r.Num()}
	for i := range s.Cells {
		s.Cells[i] = int32(r.Four())
	}
	s.Seed = r.Four()
	over := r.Byte()
	s.Over = over == flag(true)
	s.Winner = int(r.Byte())
	if e := r.End(); e != api.OK {
		return api.State{}, e
	}
	if over != flag(s.Over) || !isState(s) {
		return api.State{}, api.ErrForm
	}
	return s, api.OK
}

func flag(holds bool) byte {
	if holds {
		return 1
	}
	return 0
}
