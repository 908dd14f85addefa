package store

import (
	"iter"
	"maps"
	"slices"

	"gauntlet/api"
	"gauntlet/seglog"
)

// Compact writes the store anew, without what is needed no more.
func (s *Store) Compact() api.Errno {
	switch {
	case s == nil:
		return api.ErrArg
	case s.dead:
		return api.ErrDead
	case s.age == maxAge:
		return api.ErrArg
	}
	log, e := s.writeAnew()
	switch e {
	case api.OK:
		e = s.turnTo(log)
	case api.ErrFull:
		if e = s.takeBack(); e == api.OK {
			return api.ErrFull
		}
	}
	s.dead = e != api.OK
	return e
}

// writeAnew lays all that must last ahead of the Rename; till then the elder log is the store's.
func (s *Store) writeAnew() (*seglog.Log, api.Errno) {
	log, e := s.writeLog()
	if e != api.OK {
		return nil, e
	}
	if e := s.writeManifest(); e != api.OK {
		return nil, e
	}
	return log, api.OK
}

// writeLog is the log of the next age.
func (s *Store) writeLog() (*seglog.Log, api.Errno) {
	next := s.age + 1
	if e := removeLog(s.disk, next); e != api.OK {
		return nil, e
	}
	log, e := seglog.Open(s.disk, logPrefix(next))
	if e != api.OK {
		return nil, e
	}
	for n := range s.needed() {
		if _, e := log.Append(n.bytes()); e != api.OK {
			return nil, e
		}
	}
	return log, log.Sync()
}

// needed is the entries that tell the streams, by keys.
func (s *Store) needed() iter.Seq[entry] {
	keys := slices.AppendSeq(slices.Collect(maps.Keys(s.streams)), maps.Keys(s.retired))
	slices.Sort(keys)
	return func(yield func(entry) bool) {
		for _, key := range keys {
			if !s.tell(key, yield) {
				return
			}
		}
	}
}

// tell yields the entries of a key, and tells whether more are wanted.
func (s *Store) tell(key int, yield func(entry) bool) bool {
	if s.Retired(key) {
		return yield(entry{kind: kindRetired, key: key})
	}
	for _, p := range s.streams[key] {
		if !yield(entry{kind: kindRecord, key: key, record: p}) {
			return false
		}
	}
	return true
}

func (s *Store) writeManifest() api.Errno {
	if e := removeNewManifest(s.disk); e != api.OK {
		return e
	}
	if e := s.disk.Write(newManifest, manifestOf(s.age+1)); e != api.OK {
		return e
	}
	return s.disk.Sync(newManifest)
}

// turnTo makes the new log the store's: from the Rename on an Open takes that one, whatever becomes of the elder one's files.
func (s *Store) turnTo(log *seglog.Log) api.Errno {
	if e := s.disk.Rename(newManifest, manifest); e != api.OK {
		return e
	}
	elder := s.age
	s.log, s.age, s.waste = log, elder+1, 0
	return removeLog(s.disk, elder)
}

// takeBack removes what was written for the next age.
func (s *Store) takeBack() api.Errno {
	if e := removeNewManifest(s.disk); e != api.OK {
		return e
	}
	return removeLog(s.disk, s.age+1)
}
