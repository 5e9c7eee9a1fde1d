package chunk

import (
	"slices"

	"icehouse/api"
	"icehouse/label"
	"icehouse/record"
)

// Group: the entries as chunks, those of each list of labels by themselves.
func Group(l []api.Entry) []Chunk {
	sorted := record.Sort(counted(l))
	slices.SortStableFunc(sorted, func(a, b api.Entry) int { return label.Compare(a.Labels, b.Labels) })
	var out []Chunk
	for len(sorted) > 0 {
		n := streamLength(sorted)
		out = append(out, pieces(sorted[0].Labels, rowsOf(sorted[:n]), mostRows)...)
		sorted = sorted[n:]
	}
	return out
}

// counted: the entries that may be, of each Seq the first one of them.
func counted(l []api.Entry) []api.Entry {
	var out []api.Entry
	seen := map[int]struct{}{}
	for _, x := range l {
		if _, there := seen[x.Seq]; there || !record.Right(x) {
			continue
		}
		seen[x.Seq] = struct{}{}
		out = append(out, x)
	}
	return out
}

// streamLength: how many entries, from the first one on, are of its stream.
func streamLength(sorted []api.Entry) int {
	n := 1
	for ahead, x := range pairs(sorted) {
		if label.Compare(ahead.Labels, x.Labels) != 0 {
			break
		}
		n++
	}
	return n
}

func rowsOf(l []api.Entry) []Row {
	var rows []Row
	for _, x := range l {
		rows = append(rows, Row{Seq: x.Seq, Time: x.Time, Line: x.Line})
	}
	return rows
}
