// Package codec is layer 1: numbers, texts and frames: see shared/doc/01-codec.md.
package codec

import "icehouse/api"

const (
	// numberBytes times seven bits reach just to the greatest number.
	numberBytes = 8
	numberEnd   = 1 << (7 * numberBytes)
	signedEnd   = numberEnd / 2
	// more marks a byte of a number behind which another one comes.
	more = 128
)

// coded is a number of one of the two kinds: each knows which plain number is
// written for it, and whether it may be written at all.
type coded interface {
	plain | signed
	code() (uint64, bool)
}

type plain int

type signed int

func (n plain) code() (uint64, bool) {
	return uint64(n), 0 <= n && n < numberEnd
}

func (n signed) code() (uint64, bool) {
	fits := -signedEnd <= n && n < signedEnd
	if n < 0 {
		return uint64(-2*n - 1), fits
	}
	return uint64(2 * n), fits
}

func write[T coded](n T) ([]byte, api.Errno) {
	code, fits := n.code()
	if !fits {
		return nil, api.ErrRange
	}
	var b []byte
	for ; code >= more; code >>= 7 {
		b = append(b, byte(code)|more)
	}
	return append(b, byte(code)), api.OK
}

// Number: n as bytes.
func Number(n int) ([]byte, api.Errno) { return write(plain(n)) }

// Signed: n as bytes.
func Signed(n int) ([]byte, api.Errno) { return write(signed(n)) }

// Text: s as bytes.
func Text(s string) ([]byte, api.Errno) {
	if len(s) > api.MaxText {
		return nil, api.ErrSize
	}
	b, e := Number(len(s))
	if e != api.OK {
		return nil, e
	}
	return append(b, s...), api.OK
}

// readNumber: the number at b's beginning, and how many bytes it has there.
func readNumber(b []byte) (n, size int, e api.Errno) {
	for i, c := range b {
		n |= int(c&^more) << (7 * i)
		// Behind an eighth byte with more no number goes on, whatever follows.
		if c >= more && i < numberBytes-1 {
			continue
		}
		if c >= more || c == 0 && i > 0 {
			return 0, 0, api.ErrForm
		}
		return n, i + 1, api.OK
	}
	return 0, 0, api.ErrEnd
}

func readSigned(b []byte) (n, size int, e api.Errno) {
	n, size, e = readNumber(b)
	if n%2 == 1 {
		return -(n + 1) / 2, size, e
	}
	return n / 2, size, e
}

func readText(b []byte) (s string, size int, e api.Errno) {
	length, head, e := readNumber(b)
	if e != api.OK {
		return "", 0, e
	}
	if length > api.MaxText {
		return "", 0, api.ErrForm
	}
	if length > len(b)-head {
		return "", 0, api.ErrEnd
	}
	size = head + length
	return string(b[head:size]), size, api.OK
}
