// Package standin holds what the stand-ins for a disk and a store share: which
// names may be, and the failure of one call.
package standin

import "icehouse/api"

// Name: whether something may have the name: 1 to MaxName bytes from 33 to 126.
func Name(name string) bool { return len(name) > 0 && Beginning(name) }

// Beginning: whether a name that may be could begin so; an empty one, too.
func Beginning(text string) bool {
	if len(text) > api.MaxName {
		return false
	}
	for i := range len(text) {
		if text[i] < 33 || text[i] > 126 {
			return false
		}
	}
	return true
}

// Failure: of one call. The zero Failure is none.
type Failure struct {
	left int // how many calls more it is to the one that fails; 0: none does
	done bool
}

// Fail: the kth call from now on fails, done all the same or not; k below 1: none does.
func (f *Failure) Fail(k int, done bool) { f.left, f.done = max(k, 0), done }

// Next: of the next call: whether it is done, and what it answers.
func (f *Failure) Next() (bool, api.Errno) {
	if f.left == 0 {
		return true, api.OK
	}
	f.left--
	if f.left > 0 {
		return true, api.OK
	}
	return f.done, api.ErrFault
}
