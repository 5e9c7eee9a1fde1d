package wal

import (
	"icehouse/api"
	"icehouse/codec"
	"icehouse/numbered"
	"icehouse/record"
)

const batchKind = 1 // of a frame

// Scan: a segment's batches, up to what is none.
func Scan(b []byte) [][]api.Entry {
	var batches [][]api.Entry
	for {
		kind, in, n, e := codec.Unframe(b)
		if e != api.OK || kind != batchKind {
			return batches
		}
		l, e := record.GetBatch(in)
		if e != api.OK {
			return batches
		}
		batches = append(batches, l)
		b = b[n:]
	}
}

// framed: a batch as it stands in a segment.
func framed(l []api.Entry) ([]byte, api.Errno) {
	b, e := record.PutBatch(l)
	if e != api.OK {
		return nil, e
	}
	return codec.Frame(batchKind, b)
}

// names: of the segments' files.
func names() numbered.Names { return numbered.Names{Beginning: "wal-", Digits: 10} }

// nameOf: the segment's file; "", if the numbers are used up.
func nameOf(n int) string { return names().Of(n) }
