// Package join lays pieces of bytes one behind the other.
package join

import (
	"icehouse/api"
	"icehouse/codec"
)

// Bytes: the pieces up to the first error. The zero Bytes has none yet.
type Bytes struct {
	b   []byte
	err api.Errno
}

// Add: one more piece, as whoever wrote it hands it on.
func (l *Bytes) Add(b []byte, e api.Errno) {
	if l.err == api.OK {
		l.b, l.err = append(l.b, b...), e
	}
}

// AddText: likewise, as a text: its length stands ahead of it.
func (l *Bytes) AddText(b []byte, e api.Errno) {
	if e == api.OK {
		b, e = codec.Text(string(b))
	}
	l.Add(b, e)
}

// Done: all of them as one, or the first error.
func (l *Bytes) Done() ([]byte, api.Errno) {
	if l.err != api.OK {
		return nil, l.err
	}
	return l.b, api.OK
}
