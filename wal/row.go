package wal

import (
	"maps"
	"slices"

	"icehouse/api"
	"icehouse/files"
	"icehouse/simdisk"
)

// row: a disk's segments, and what a log knows of them.
type row struct {
	disk *simdisk.Disk
	size int // a segment with so many bytes is full
	most int // no segment is made where there are so many
	last int // the greatest Seq that was told, or asked to be kept
	held map[int]segment
}

// segment: what it holds.
type segment struct {
	// seq is the greatest one of what was found in it or put into it, also of
	// what may be lost; 0 where there is nothing.
	seq int
	// room: how many bytes it lacks till it is full; 0 or below: nothing is
	// put into it any more. One that this log did not make has none, nor has
	// a spoilt one: of what stands there something may be lost, and behind
	// a loss nothing would be found.
	room int
}

// find: the entries of all segments, which are held from now on.
func (r *row) find(numbers []int) ([]api.Entry, api.Errno) {
	var all []api.Entry
	for _, n := range numbers {
		b, e := r.disk.Read(nameOf(n))
		if e != api.OK {
			return nil, e
		}
		l := slices.Concat(Scan(b)...)
		r.held[n] = segment{seq: greatest(l)}
		all = append(all, l...)
	}
	r.last = greatest(all)
	return all, api.OK
}

// greatest: the greatest Seq; 0 without an entry.
func greatest(l []api.Entry) int {
	seq := 0
	for _, x := range l {
		seq = max(seq, x.Seq)
	}
	return seq
}

// newest: the greatest number of a segment; 0 without one.
func (r *row) newest() int {
	newest := 0
	for n := range r.held {
		newest = max(newest, n)
	}
	return newest
}

// put: the frame, whose greatest Seq is seq, stands in the newest segment, or
// in a new one. What may have been written counts as asked; where there is no
// room nothing was.
func (r *row) put(frame []byte, seq int) (e api.Errno) {
	defer func() {
		if e != api.ErrBusy && e != api.ErrFull {
			r.last = max(r.last, seq)
		}
	}()
	n := r.newest()
	if r.held[n].room <= 0 {
		n++
		// Where the numbers are used up, too, segments must go first.
		if len(r.held) >= r.most || nameOf(n) == "" {
			return api.ErrBusy
		}
		if e = r.begin(n); e != api.OK {
			return e
		}
	}
	return r.write(n, frame, seq)
}

// begin: a new segment, whose name is sure. A failed step may be done all the
// same: then it is there, and spoilt.
func (r *row) begin(n int) (e api.Errno) {
	name := nameOf(n)
	defer func() {
		if e == api.OK {
			r.held[n] = segment{room: r.size}
		} else if files.Has(r.disk, name) {
			r.held[n] = segment{}
		}
	}()
	if e = r.disk.Create(name); e != api.OK {
		return e
	}
	return r.disk.SyncDir()
}

// write: the frame is sure, behind all else in the segment. Only where the disk
// had no room for it, it is certain that nothing of it is there.
func (r *row) write(n int, frame []byte, seq int) (e api.Errno) {
	defer func() {
		if e == api.ErrFull {
			return
		}
		s := r.held[n]
		s.seq = max(s.seq, seq)
		s.room -= len(frame)
		if e != api.OK {
			s.room = 0
		}
		r.held[n] = s
	}()
	name := nameOf(n)
	if e = r.disk.Append(name, frame); e != api.OK {
		return e
	}
	return r.disk.Sync(name)
}

// truncate: the lowest segments go, as far as none has an entry above seq.
func (r *row) truncate(seq int) api.Errno {
	some := false
	for _, n := range slices.Sorted(maps.Keys(r.held)) {
		if r.held[n].seq > seq {
			break
		}
		if e := r.remove(n); e != api.OK {
			return e
		}
		some = true
	}
	if !some {
		return api.OK
	}
	return r.disk.SyncDir()
}

// remove: the segment goes; where the step failed, it may be gone all the same.
func (r *row) remove(n int) (e api.Errno) {
	name := nameOf(n)
	defer func() {
		if e == api.OK || !files.Has(r.disk, name) {
			delete(r.held, n)
		}
	}()
	return r.disk.Remove(name)
}
