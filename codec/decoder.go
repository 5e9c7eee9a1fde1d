package codec

import (
	"bytes"

	"icehouse/api"
)

// Decoder reads numbers and texts, one behind the other, up to the first error.
type Decoder struct {
	// made is false in a Decoder that New did not make: that one answers ErrArg.
	made bool
	rest []byte
	err  api.Errno
}

// New: a decoder at b's beginning.
func New(b []byte) *Decoder { return &Decoder{made: true, rest: bytes.Clone(b)} }

// next reads what read finds at the beginning of the rest. It moves on only
// where that went well, so that Left tells where the call that failed began.
func next[T any](d *Decoder, read func(b []byte) (T, int, api.Errno)) T {
	var none T
	if d.Err() != api.OK {
		return none
	}
	got, size, e := read(d.rest)
	if e != api.OK {
		d.err = e
		return none
	}
	d.rest = d.rest[size:]
	return got
}

// Number: the next number.
func (d *Decoder) Number() int { return next(d, readNumber) }

// Signed: the next signed number.
func (d *Decoder) Signed() int { return next(d, readSigned) }

// Text: the next text.
func (d *Decoder) Text() string { return next(d, readText) }

// Left: how many bytes were not read.
func (d *Decoder) Left() int {
	if d == nil {
		return 0
	}
	return len(d.rest)
}

// Err: the first error.
func (d *Decoder) Err() api.Errno {
	if d == nil || !d.made {
		return api.ErrArg
	}
	return d.err
}

// Done: the first error, or whether bytes are left.
func (d *Decoder) Done() api.Errno {
	if e := d.Err(); e != api.OK {
		return e
	}
	if len(d.rest) > 0 {
		return api.ErrForm
	}
	return api.OK
}
