package segment

import (
	"icehouse/api"
	"icehouse/files"
	"icehouse/numbered"
	"icehouse/simdisk"
)

const (
	names numbered.IDs = "seg-"
	// partName: of a file that is not whole yet.
	partName = "seg.tmp"
)

// Name: the id's file; "" without such an id.
func Name(id int) string { return names.Of(id) }

// Write: the id's file is there, with these bytes.
func Write(d *simdisk.Disk, id int, b []byte) api.Errno {
	if !numbered.RightID(id) {
		return api.ErrArg
	}
	if files.Has(d, Name(id)) {
		return api.ErrThere
	}
	return files.Write(d, partName, Name(id), b)
}

// Read: the bytes of the id's file.
func Read(d *simdisk.Disk, id int) ([]byte, api.Errno) {
	if !numbered.RightID(id) {
		return nil, api.ErrArg
	}
	return d.Read(Name(id))
}

// Remove: the id's file is gone.
func Remove(d *simdisk.Disk, id int) api.Errno {
	if !numbered.RightID(id) {
		return api.ErrArg
	}
	return files.Remove(d, Name(id))
}

// Ids: those that have a file.
func Ids(d *simdisk.Disk) ([]int, api.Errno) {
	if e := files.Ready(d); e != api.OK {
		return nil, e
	}
	return names.In(d.List()), api.OK
}
