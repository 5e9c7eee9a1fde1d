package chunk

import (
	"slices"

	"icehouse/api"
)

// Bounds: the least and the greatest Time, the least and the greatest Seq.
func Bounds(c Chunk) (least, most, first, last int) {
	if !Right(c) {
		return 0, 0, 0, 0
	}
	// The rows stand by their times, but their numbers may fall.
	least, most = c.Rows[0].Time, c.Rows[len(c.Rows)-1].Time
	first, last = c.Rows[0].Seq, c.Rows[0].Seq
	for _, x := range c.Rows {
		first, last = min(first, x.Seq), max(last, x.Seq)
	}
	return least, most, first, last
}

// Between: the entries of a Time from from to below to.
func Between(c Chunk, from, to int) []api.Entry {
	if !Right(c) {
		return nil
	}
	var out []api.Entry
	for _, x := range c.Rows {
		if from <= x.Time && x.Time < to {
			out = append(out, entry(slices.Clone(c.Labels), x))
		}
	}
	return out
}

// Split: chunks of the same rows, most in each.
func Split(c Chunk, most int) []Chunk {
	if most < 1 || !Right(c) {
		return nil
	}
	return pieces(c.Labels, c.Rows, most)
}

// pieces: chunks of these rows, most in each. They share nothing with what is handed in.
func pieces(labels []api.Label, rows []Row, most int) []Chunk {
	var out []Chunk
	for part := range slices.Chunk(rows, most) {
		out = append(out, Chunk{Labels: slices.Clone(labels), Rows: slices.Clone(part)})
	}
	return out
}
