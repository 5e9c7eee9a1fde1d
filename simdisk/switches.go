package simdisk

import (
	"icehouse/api"
	"icehouse/standin"
)

// switches: what befalls a disk's operations.
type switches struct {
	standin.Failure
	off  bool // the power
	fuse int  // how many operations go ahead of the one at which the power goes; below 0: none has it go
}

// calm: the power is on, and nothing befalls it.
func calm() switches { return switches{fuse: -1} }

// ask: whether an operation is done, and what it answers.
func (s *switches) ask() (bool, api.Errno) {
	if s.fuse == 0 {
		s.off = true
		return false, api.ErrPower
	}
	if s.fuse > 0 {
		s.fuse--
	}
	return s.Next()
}
