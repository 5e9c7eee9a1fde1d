package codec

import (
	"bytes"

	"icehouse/api"
)

// sums: what four bits that leave the register bring into it (polynomial 0x82f63b78).
var sums = [16]uint32{
	0x00000000, 0x105ec76f, 0x20bd8ede, 0x30e349b1,
	0x417b1dbc, 0x5125dad3, 0x61c69362, 0x7198540d,
	0x82f63b78, 0x92a8fc17, 0xa24bb5a6, 0xb21572c9,
	0xc38d26c4, 0xd3d3e1ab, 0xe330a81a, 0xf36e6f75,
}

const (
	sumStart = 0xffffffff
	sumBytes = 4
	// frameByte begins each frame.
	frameByte = 0xa5
)

// feed: the register behind b's bytes. It is apart from Sum so that a sum can
// go over bytes that don't lie side by side.
func feed(register uint32, b []byte) uint32 {
	for _, c := range b {
		register ^= uint32(c)
		register = sums[register&15] ^ register>>4
		register = sums[register&15] ^ register>>4
	}
	return register
}

// Sum: CRC-32C of b.
func Sum(b []byte) uint32 { return ^feed(sumStart, b) }

// frameSum: of a frame with this head (kind and length), and in in it.
func frameSum(head, in []byte) uint32 { return ^feed(feed(sumStart, head), in) }

// Frame: b as a frame of that kind.
func Frame(kind int, b []byte) ([]byte, api.Errno) {
	if kind < 0 || kind > 255 {
		return nil, api.ErrArg
	}
	if len(b) > api.MaxBytes {
		return nil, api.ErrSize
	}
	length, e := Number(len(b))
	if e != api.OK {
		return nil, e
	}
	head := append([]byte{byte(kind)}, length...)
	sum := frameSum(head, b)
	frame := append([]byte{frameByte}, head...)
	frame = append(frame, byte(sum>>24), byte(sum>>16), byte(sum>>8), byte(sum))
	return append(frame, b...), api.OK
}

// Unframe: the frame at b's beginning: its kind, what is in it, how many bytes it has.
func Unframe(b []byte) (kind int, in []byte, n int, e api.Errno) {
	if len(b) > 0 && b[0] != frameByte {
		return 0, nil, 0, api.ErrForm
	}
	if len(b) < 2 {
		return 0, nil, 0, api.ErrEnd
	}
	length, size, e := readNumber(b[2:])
	if e != api.OK {
		return 0, nil, 0, e
	}
	if length > api.MaxBytes {
		return 0, nil, 0, api.ErrForm
	}
	head := b[1 : 2+size]
	rest := b[2+size:]
	if len(rest) < sumBytes+length {
		return 0, nil, 0, api.ErrEnd
	}
	in = rest[sumBytes : sumBytes+length]
	if readSum(rest) != frameSum(head, in) {
		return 0, nil, 0, api.ErrSum
	}
	return int(b[1]), bytes.Clone(in), 2 + size + sumBytes + length, api.OK
}

// readSum: the sum that the first four bytes of b say.
func readSum(b []byte) uint32 {
	var sum uint32
	for _, c := range b[:sumBytes] {
		sum = sum<<8 | uint32(c)
	}
	return sum
}
