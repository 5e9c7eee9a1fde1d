package block

import (
	"icehouse/api"
	"icehouse/codec"
	"icehouse/join"
	"icehouse/planner"
)

const (
	// metaKind: of a meta's frame.
	metaKind = 8
	// sumEnd stands behind the greatest sum.
	sumEnd = 1 << 32
)

func rightSum(sum int) bool { return 0 <= sum && sum < sumEnd }

// PutMeta: the Meta, and the sum of its data, as bytes.
func PutMeta(m planner.Meta, sum int) ([]byte, api.Errno) {
	if !rightSum(sum) {
		return nil, api.ErrArg
	}
	var all join.Bytes
	all.AddText(planner.Put(m))
	all.Add(codec.Number(sum))
	in, e := all.Done()
	if e != api.OK {
		return nil, e
	}
	return codec.Frame(metaKind, in)
}

// GetMeta: the Meta and the sum that b is the bytes of.
func GetMeta(b []byte) (m planner.Meta, sum int, e api.Errno) {
	kind, in, n, e := codec.Unframe(b)
	if e != api.OK || kind != metaKind || n != len(b) {
		return planner.Meta{}, 0, api.ErrForm
	}
	d := codec.New(in)
	m, e = planner.Get([]byte(d.Text()))
	sum = d.Number()
	if e != api.OK || d.Done() != api.OK || !rightSum(sum) {
		return planner.Meta{}, 0, api.ErrForm
	}
	return m, sum, api.OK
}
