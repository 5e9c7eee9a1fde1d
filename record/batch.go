package record

import (
	"icehouse/api"
	"icehouse/codec"
	"icehouse/join"
)

// rightBatch: whether the entries may be a batch.
func rightBatch(l []api.Entry) bool {
	if len(l) < 1 || len(l) > api.MaxBatch {
		return false
	}
	for i, x := range l {
		if !Right(x) || i > 0 && x.Seq != l[i-1].Seq+1 {
			return false
		}
	}
	return true
}

// PutBatch: the batch as bytes.
func PutBatch(l []api.Entry) ([]byte, api.Errno) {
	if !rightBatch(l) {
		return nil, api.ErrArg
	}
	var all join.Bytes
	all.Add(codec.Number(len(l)))
	for _, x := range l {
		all.AddText(Put(x))
	}
	return all.Done()
}

// GetBatch: the batch that b is the bytes of.
func GetBatch(b []byte) ([]api.Entry, api.Errno) {
	return tried(func() (l []api.Entry, e api.Errno) {
		d := codec.New(b)
		count := d.Number()
		// Told ahead of reading, so that a great number costs nothing.
		if count > api.MaxBatch {
			return nil, api.ErrForm
		}
		for range count {
			x, e := Get([]byte(d.Text()))
			if e != api.OK {
				return nil, e
			}
			l = append(l, x)
		}
		if e = d.Done(); e == api.OK && !rightBatch(l) {
			e = api.ErrForm
		}
		return l, e
	})
}
