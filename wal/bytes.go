package wal

import (
	"strconv"
	"strings"

	"icehouse/api"
	"icehouse/codec"
	"icehouse/record"
	"icehouse/simdisk"
)

const (
	batchKind = 1 // of a frame

	namePrefix = "wal-"
	nameDigits = 10
	// numbersEnd is the least number that has more digits.
	numbersEnd = 10_000_000_000
)

// Scan: a segment's batches, up to what is none.
func Scan(b []byte) [][]api.Entry {
	var batches [][]api.Entry
	for {
		kind, in, n, e := codec.Unframe(b)
		if e != api.OK || kind != batchKind {
			return batches
		}
		l, e := record.GetBatch(in)
		if e != api.OK {
			return batches
		}
		batches = append(batches, l)
		b = b[n:]
	}
}

// framed: a batch as it stands in a segment.
func framed(l []api.Entry) ([]byte, api.Errno) {
	b, e := record.PutBatch(l)
	if e != api.OK {
		return nil, e
	}
	return codec.Frame(batchKind, b)
}

// nameOf: the segment's file.
func nameOf(n int) string {
	digits := strconv.Itoa(n)
	return namePrefix + strings.Repeat("0", nameDigits-len(digits)) + digits
}

// numberOf: the number of the segment whose file has that name; false of another file's name.
func numberOf(name string) (int, bool) {
	digits, some := strings.CutPrefix(name, namePrefix)
	// Atoi alone would take signs, too.
	if !some || len(digits) != nameDigits || strings.Trim(digits, "0123456789") != "" {
		return 0, false
	}
	n, err := strconv.Atoi(digits)
	return n, err == nil
}

// numbersOn: those of the disk's segments; as all have as many digits they rise as the names do.
func numbersOn(d *simdisk.Disk) []int {
	var numbers []int
	for _, name := range d.List() {
		if n, some := numberOf(name); some {
			numbers = append(numbers, n)
		}
	}
	return numbers
}
