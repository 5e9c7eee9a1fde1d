package segment

import (
	"slices"

	"icehouse/api"
	"icehouse/files"
	"icehouse/numbered"
	"icehouse/simdisk"
)

const (
	// idsEnd stands behind the greatest id.
	idsEnd = 1 << 40
	// partName: of a file that is not whole yet.
	partName = "seg.tmp"
)

func names() numbered.Names { return numbered.Names{Beginning: "seg-", Digits: 13} }

func rightID(id int) bool { return 1 <= id && id < idsEnd }

// Name: the id's file.
func Name(id int) string {
	if !rightID(id) {
		return ""
	}
	return names().Of(id)
}

// Write: the id's file is there, with these bytes.
func Write(d *simdisk.Disk, id int, b []byte) api.Errno {
	if !rightID(id) {
		return api.ErrArg
	}
	if files.Has(d, Name(id)) {
		return api.ErrThere
	}
	return files.Write(d, partName, Name(id), b)
}

// Read: the bytes of the id's file.
func Read(d *simdisk.Disk, id int) ([]byte, api.Errno) {
	if !rightID(id) {
		return nil, api.ErrArg
	}
	return d.Read(Name(id))
}

// Remove: the id's file is gone.
func Remove(d *simdisk.Disk, id int) api.Errno {
	if !rightID(id) {
		return api.ErrArg
	}
	return files.Remove(d, Name(id))
}

// Ids: those that have a file.
func Ids(d *simdisk.Disk) ([]int, api.Errno) {
	if e := files.Ready(d); e != api.OK {
		return nil, e
	}
	wrong := func(id int) bool { return !rightID(id) }
	return slices.DeleteFunc(names().In(d.List()), wrong), api.OK
}
