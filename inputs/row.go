package inputs

import "gauntlet/api"

// place is an input with its mark: without it an input of 0 could not be told from none.
type place struct {
	in   uint16
	mark bool
}

// row is what one player does, a place a frame.
type row []place

func (r row) put(frame int, in uint16) api.Errno {
	if frame < 0 || frame >= len(r) {
		return api.ErrArg
	}
	if !r[frame].mark {
		r[frame] = place{in: in, mark: true}
		return api.OK
	}
	if r[frame].in == in {
		return api.ErrHas
	}
	return api.ErrOdd
}

// get goes down from the frame itself, so that what is known and what is guessed are found by one search.
func (r row) get(frame int) (in uint16, known bool) {
	for i := min(frame, len(r)-1); i >= 0; i-- {
		if r[i].mark {
			return r[i].in, i == frame
		}
	}
	return 0, false
}

// known is how many frames from 0 on are known without a gap.
func (r row) known() int {
	n := 0
	for n < len(r) && r[n].mark {
		n++
	}
	return n
}
