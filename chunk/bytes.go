package chunk

import (
	"icehouse/api"
	"icehouse/codec"
	"icehouse/join"
	"icehouse/label"
)

// Put: the chunk as bytes.
func Put(c Chunk) ([]byte, api.Errno) {
	if !Right(c) {
		return nil, api.ErrArg
	}
	var all join.Bytes
	all.AddText(label.Bytes(c.Labels))
	all.Add(codec.Number(len(c.Rows)))
	first := c.Rows[0]
	all.Add(codec.Number(first.Time))
	all.Add(codec.Number(first.Seq))
	all.Add(codec.Text(first.Line))
	for ahead, x := range pairs(c.Rows) {
		all.Add(codec.Number(x.Time - ahead.Time))
		all.Add(codec.Signed(x.Seq - ahead.Seq))
		all.Add(codec.Text(x.Line))
	}
	return all.Done()
}

// Get: the chunk that b is the bytes of.
func Get(b []byte) (Chunk, api.Errno) {
	d := codec.New(b)
	labels, e := label.Read([]byte(d.Text()))
	c := Chunk{Labels: labels, Rows: readRows(d)}
	if e != api.OK || d.Done() != api.OK || !Right(c) {
		return Chunk{}, api.ErrForm
	}
	return c, api.OK
}

// readRows: the rows that d tells. Whether they may be is not asked here. A sum
// could wrap round only behind a row whose numbers are far too great already,
// so that no chunk that may be comes of it.
func readRows(d *codec.Decoder) []Row {
	count := d.Number()
	// Told ahead of reading, so that a great number costs nothing.
	if count > mostRows {
		return nil
	}
	var rows []Row
	var x Row
	for i := range count {
		x.Time += d.Number()
		if i == 0 {
			x.Seq = d.Number()
		} else {
			x.Seq += d.Signed()
		}
		x.Line = d.Text()
		rows = append(rows, x)
	}
	return rows
}
