package disk_test

import (
	"slices"
	"testing"

	"gauntlet/api"
	"gauntlet/disk"
)

// plainByte is a byte that tells itself whether it lasts.
type plainByte struct {
	b     byte
	lasts bool
}

// plainFile is a file of a plain disk.
type plainFile struct {
	name string
	row  []plainByte
}

// plainDisk does what the document says in the plainest way: a list of files, each a list of bytes, all of it counted anew each time.
type plainDisk struct {
	room  int
	files []plainFile
	fused bool
	left  int
}

func (d *plainDisk) find(name string) int {
	return slices.IndexFunc(d.files, func(f plainFile) bool { return f.name == name })
}

func (d *plainDisk) used() int {
	n := 0
	for _, f := range d.files {
		n += len(f.row)
	}
	return n
}

func (d *plainDisk) take(i int) { d.files = slices.Delete(d.files, i, i+1) }

// refused is what an act errs with, whatever is there.
func (d *plainDisk) refused(a act) api.Errno {
	names := []string{a.name}
	if a.kind == actRename {
		names = append(names, a.other)
	}
	if d.fused && d.left == 0 {
		return api.ErrDead
	}
	for _, name := range names {
		if name == "" || len(name) > 64 {
			return api.ErrArg
		}
	}
	return api.OK
}

func (d *plainDisk) do(a act) api.Errno {
	e := d.refused(a)
	if e == api.OK {
		e = d.doNow(a)
		if e == api.OK && d.fused {
			d.left--
		}
	}
	return e
}

func (d *plainDisk) doNow(a act) api.Errno {
	i := d.find(a.name)
	if a.kind == actWrite {
		return d.write(i, a)
	}
	if i < 0 {
		return api.ErrNone
	}
	f := &d.files[i]
	switch a.kind {
	case actSync:
		for j := range f.row {
			f.row[j].lasts = true
		}
	case actCut:
		if a.n < 0 || a.n > len(f.row) {
			return api.ErrArg
		}
		f.row = slices.Clone(f.row[:a.n])
	case actRename:
		if a.name == a.other {
			return api.OK
		}
		f.name = a.other
		for j := range d.files {
			if j != i && d.files[j].name == a.other {
				d.take(j)
				break
			}
		}
	case actRemove:
		d.take(i)
	}
	return api.OK
}

func (d *plainDisk) write(i int, a act) api.Errno {
	if d.used()+len(a.p) > d.room || i < 0 && len(d.files) == api.MaxFiles {
		return api.ErrFull
	}
	if i < 0 {
		i = len(d.files)
		d.files = append(d.files, plainFile{name: a.name})
	}
	for _, b := range a.p {
		d.files[i].row = append(d.files[i].row, plainByte{b: b})
	}
	return api.OK
}

func (d *plainDisk) crash(keep int, tear byte) {
	for i := range d.files {
		f := &d.files[i]
		lasting := 0
		for _, b := range f.row {
			if b.lasts {
				lasting++
			}
		}
		length := lasting + kept(keep, len(f.row)-lasting)
		f.row = slices.Clone(f.row[:length])
		for j := range f.row {
			if !f.row[j].lasts && j/api.Sector == (length-1)/api.Sector {
				f.row[j].b ^= tear
			}
			f.row[j].lasts = true
		}
	}
	d.fused = false
}

func (d *plainDisk) clone() *plainDisk {
	c := &plainDisk{room: d.room}
	for _, f := range d.files {
		c.files = append(c.files, plainFile{name: f.name, row: slices.Clone(f.row)})
	}
	return c
}

// rows are names and texts in turn, by names.
func (d *plainDisk) rows() []string {
	files := slices.Clone(d.files)
	slices.SortFunc(files, func(x, y plainFile) int {
		if x.name < y.name {
			return -1
		}
		return 1
	})
	var rows []string
	for _, f := range files {
		var text []byte
		for _, b := range f.row {
			text = append(text, b.b)
		}
		rows = append(rows, f.name, string(text))
	}
	return rows
}

const (
	actWrite = iota
	actSync
	actCut
	actRename
	actRemove
	actFuse
	actCrash
	actCopy
	actKinds
)

// act is one thing that happens to a disk.
type act struct {
	kind        int
	name, other string
	p           []byte
	n           int
	tear        byte
}

// draws are numbers by a rule, the same in each run.
type draws uint32

func (r *draws) below(n int) int {
	*r = *r*1664525 + 1013904223
	return int(uint32(*r)>>8) % n
}

func (r *draws) name() string {
	const names = "aabbcde"
	if r.below(40) == 0 {
		return string(make([]byte, []int{0, 64, 65}[r.below(3)]))
	}
	i := r.below(len(names))
	return names[i : i+1]
}

func (r *draws) act() act {
	kind := r.below(actKinds + 3)
	if kind >= actKinds { // writes are what makes the others worth something
		kind = actWrite
	}
	if kind >= actFuse && r.below(3) > 0 {
		kind = actSync
	}
	return act{
		kind: kind, name: r.name(), other: r.name(),
		p: someBytes(r.below(45), r.below(1000)), n: r.below(90) - 5, tear: byte(r.below(3) * r.below(256)),
	}
}

func (a act) on(d *disk.Disk) api.Errno {
	switch a.kind {
	case actWrite:
		return d.Write(a.name, a.p)
	case actSync:
		return d.Sync(a.name)
	case actCut:
		return d.Cut(a.name, a.n)
	case actRename:
		return d.Rename(a.name, a.other)
	}
	return d.Remove(a.name)
}

// P3.1 to P3.6, all together: whatever happens in whatever order, a disk is what the plain one is.
func TestADiskIsThePlainOne(t *testing.T) {
	for seed := range 200 {
		r := draws(seed)
		room := 50 + r.below(400)
		plain, d := &plainDisk{room: room}, made(t, room)
		for i := range 200 {
			a := r.act()
			switch a.kind {
			case actFuse:
				plain.fused, plain.left = a.n >= 0, a.n
				d.Fuse(a.n)
			case actCrash:
				plain.crash(a.n, a.tear)
				d.Crash(a.n, a.tear)
			case actCopy:
				plain, d = plain.clone(), d.Copy()
			default:
				if got, want := a.on(d), plain.do(a); got != want {
					t.Fatalf("seed %d, step %d, %+v: got %v, want %v", seed, i, a, got, want)
				}
			}
			has(t, d, plain.rows()...)
			if t.Failed() {
				t.Fatalf("seed %d, step %d, %+v", seed, i, a)
			}
		}
		plain.crash(seed, 0xff)
		d.Crash(seed, 0xff)
		has(t, d, plain.rows()...)
	}
}
