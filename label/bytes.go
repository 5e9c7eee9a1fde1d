package label

import (
	"icehouse/api"
	"icehouse/codec"
)

// Bytes: the labels as bytes.
func Bytes(l []api.Label) ([]byte, api.Errno) {
	if !Right(l) {
		return nil, api.ErrLabel
	}
	b, e := codec.Number(len(l))
	if e != api.OK {
		return nil, e
	}
	for _, x := range l {
		for _, s := range [2]string{x.Name, x.Value} {
			text, e := codec.Text(s)
			if e != api.OK {
				return nil, e
			}
			b = append(b, text...)
		}
	}
	return b, api.OK
}

// Read: the labels that b is the bytes of.
func Read(b []byte) ([]api.Label, api.Errno) {
	d := codec.New(b)
	count := d.Number()
	// Told ahead of reading, so that a great number costs nothing.
	if count > api.MaxLabels {
		return nil, api.ErrForm
	}
	var l []api.Label
	for range count {
		name := d.Text()
		value := d.Text()
		l = append(l, api.Label{Name: name, Value: value})
	}
	if d.Done() != api.OK || !Right(l) {
		return nil, api.ErrForm
	}
	return l, api.OK
}
