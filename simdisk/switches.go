package simdisk

import "icehouse/api"

// switches: what befalls a disk's operations.
type switches struct {
	off   bool // the power
	fuse  int  // how many operations go ahead of the one at which the power goes; below 0: none has it go
	fault int  // how many operations more it is to the one that fails; 0: none does
	done  bool // whether that one is done all the same
}

// calm: the power is on, and nothing befalls it.
func calm() switches { return switches{fuse: -1} }

func (s *switches) fail(k int, done bool) { s.fault, s.done = max(k, 0), done }

// ask: whether an operation is done, and what it answers.
func (s *switches) ask() (bool, api.Errno) {
	if s.fuse == 0 {
		s.off = true
		return false, api.ErrPower
	}
	if s.fuse > 0 {
		s.fuse--
	}
	if s.fault == 0 {
		return true, api.OK
	}
	s.fault--
	if s.fault > 0 {
		return true, api.OK
	}
	return s.done, api.ErrFault
}
