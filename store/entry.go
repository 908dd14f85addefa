package store

import (
	"gauntlet/api"
	"gauntlet/octet"
)

const (
	kindRecord  = 1
	kindRetired = 2
)

// entry is what an entry of the log says.
type entry struct {
	kind   byte
	key    int
	record []byte // of kindRecord alone
}

// bytes is the entry as the log has it.
func (n entry) bytes() []byte {
	var w octet.Writer
	w.Byte(n.kind)
	w.Num(n.key)
	return append(w.Out(), n.record...)
}

// readEntry is the entry that these bytes are. Whether there may be such a kind, with such a record, tells whoever does it.
func readEntry(b []byte) (entry, api.Errno) {
	r := octet.NewReader(b)
	kind, key := r.Byte(), r.Num()
	left := r.Left()
	// Behind an error nothing is left; where something is left, End would speak of that.
	if left == 0 && r.End() != api.OK || !isKey(key) {
		return entry{}, api.ErrForm
	}
	return entry{kind: kind, key: key, record: b[len(b)-left:]}, api.OK
}

// kinds is how a store does each kind of entry, from kindRecord on.
func kinds() [2]func(*Store, entry) api.Errno {
	return [...]func(*Store, entry) api.Errno{
		kindRecord - 1:  (*Store).addRecord,
		kindRetired - 1: (*Store).takeAway,
	}
}

// do does what an entry says, if it may be said now.
func (s *Store) do(n entry) api.Errno {
	all := kinds()
	if n.kind < kindRecord || int(n.kind) > len(all) {
		return api.ErrForm
	}
	return all[n.kind-1](s, n)
}

func (s *Store) addRecord(n entry) api.Errno {
	if s.Retired(n.key) {
		return api.ErrForm
	}
	s.streams[n.key] = append(s.streams[n.key], n.record)
	return api.OK
}

func (s *Store) takeAway(n entry) api.Errno {
	records := len(s.streams[n.key])
	// A log that was written anew has of a retired stream this entry alone.
	lacking := records == 0 && s.age == 0
	if lacking || s.Retired(n.key) || len(n.record) > 0 {
		return api.ErrForm
	}
	delete(s.streams, n.key)
	s.retired[n.key] = struct{}{}
	s.waste += records
	return api.OK
}
