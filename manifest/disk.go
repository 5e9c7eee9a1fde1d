package manifest

import (
	"icehouse/api"
	"icehouse/files"
	"icehouse/simdisk"
)

const (
	name = "manifest"
	// partName: of a file that is not whole yet.
	partName = "manifest.tmp"
)

// Load: what the disk's file says.
func Load(d *simdisk.Disk) (State, api.Errno) {
	b, e := d.Read(name)
	if e == api.ErrNone {
		return State{Next: 1}, api.OK
	}
	if e != api.OK {
		return State{}, e
	}
	return Get(b)
}

// Save: the disk's file says just that.
func Save(d *simdisk.Disk, s State) api.Errno {
	b, e := Put(s)
	if e != api.OK {
		return e
	}
	return files.Write(d, partName, name, b)
}
