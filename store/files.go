package store

import (
	"strconv"
	"strings"

	"gauntlet/api"
	"gauntlet/disk"
	"gauntlet/frame"
	"gauntlet/octet"
)

const (
	manifest    = "manifest"
	newManifest = "manifest~"
	logMark     = "g" // all files of logs, and no others, begin with it
	logDigits   = 8   // of the number in the name of a file of a log
	maxAge      = 1 << 40
)

// logPrefix is how the files of the log of an age begin.
func logPrefix(age int) string { return logMark + strconv.Itoa(age) + "-" }

// ofLog tells whether a file belongs to the log of an age.
func ofLog(name string, age int) bool {
	number, has := strings.CutPrefix(name, logPrefix(age))
	return has && len(number) == logDigits && strings.Trim(number, "0123456789") == ""
}

// readAge is the age of a disk's store.
func readAge(d *disk.Disk) (int, api.Errno) {
	b, e := d.Read(manifest)
	if e == api.ErrNone {
		return 0, api.OK
	}
	if e != api.OK {
		return 0, e
	}
	held, size, e := frame.Decode(b)
	if e != api.OK || size != len(b) {
		return 0, api.ErrForm
	}
	r := octet.NewReader(held)
	age := r.Num()
	if r.End() != api.OK || age < 1 || age > maxAge {
		return 0, api.ErrForm
	}
	return age, api.OK
}

// manifestOf is what the manifest of an age has.
func manifestOf(age int) []byte {
	var w octet.Writer
	w.Num(age)
	// It is not too long: a Num has few bytes.
	b, _ := frame.Encode(w.Out())
	return b
}

// sweep removes what a Compact that came to no end has left: all but the log of this age.
func sweep(d *disk.Disk, age int) api.Errno {
	return removeAll(d, func(name string) bool {
		return name == newManifest || strings.HasPrefix(name, logMark) && !ofLog(name, age)
	})
}

func removeLog(d *disk.Disk, age int) api.Errno {
	return removeAll(d, func(name string) bool { return ofLog(name, age) })
}

func removeNewManifest(d *disk.Disk) api.Errno {
	return removeAll(d, func(name string) bool { return name == newManifest })
}

// removeAll removes the files of which unwanted holds, by names. It asks for those alone that are there: a disk whose fuse is burnt refuses even what there is not.
func removeAll(d *disk.Disk, unwanted func(name string) bool) api.Errno {
	for _, name := range d.Names() {
		if !unwanted(name) {
			continue
		}
		if e := d.Remove(name); e != api.OK {
			return e
		}
	}
	return api.OK
}
