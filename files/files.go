// Package files does with a disk's files what several layers do with theirs.
package files

import (
	"slices"

	"icehouse/api"
	"icehouse/simdisk"
)

// Ready: what stands against all that could be asked of the disk: no file has
// an empty name, so that a Read of it tells just that.
func Ready(d *simdisk.Disk) api.Errno {
	if _, e := d.Read(""); e != api.ErrNone {
		return e
	}
	return api.OK
}

// Has: whether a file has the name, also while the power is off.
func Has(d *simdisk.Disk, name string) bool { return slices.Contains(d.List(), name) }

// Write: the name has a new file of these bytes, or, where it ends at an error,
// what it had ahead. Till it is whole the new file has the name part.
func Write(d *simdisk.Disk, part, name string, b []byte) api.Errno {
	if Has(d, part) {
		if e := Remove(d, part); e != api.OK {
			return e
		}
	}
	return inTurn(
		func() api.Errno { return d.Create(part) },
		func() api.Errno { return d.Append(part, b) },
		func() api.Errno { return d.Sync(part) },
		func() api.Errno { return d.Rename(part, name) },
		d.SyncDir,
	)
}

// Remove: the file is gone, and no crash brings it back.
func Remove(d *simdisk.Disk, name string) api.Errno {
	return inTurn(func() api.Errno { return d.Remove(name) }, d.SyncDir)
}

// inTurn: one step behind the other, up to the first error.
func inTurn(steps ...func() api.Errno) api.Errno {
	for _, step := range steps {
		if e := step(); e != api.OK {
			return e
		}
	}
	return api.OK
}
