package memtable

import (
	"slices"
	"strings"

	"icehouse/api"
	"icehouse/matcher"
	"icehouse/merge"
	"icehouse/postings"
	"icehouse/record"
)

// table: entries by streams, and by their Seqs.
type table struct {
	// Index: the streams' labels, by the streams' ids.
	*postings.Index
	limit, bytes int
	streams      map[key]*stream
	// loose: the streams for which the index had no room.
	loose map[key]*stream
	// begun: how many streams there ever were: the next one's id.
	begun int
	// owners: of each Seq the stream that has it.
	owners map[int]*stream
	// seqs: all of them, rising, so that those that go stand together.
	seqs []int
}

func empty(limit int) *table {
	return &table{
		Index:   postings.New(),
		limit:   limit,
		streams: map[key]*stream{},
		loose:   map[key]*stream{},
		owners:  map[int]*stream{},
	}
}

// newOnes: the entries that may be and are not there, of each Seq the first one.
func (t *table) newOnes(l []api.Entry) []api.Entry {
	unfit := func(x api.Entry) bool {
		_, there := t.owners[x.Seq]
		return there || !record.Right(x)
	}
	left := slices.DeleteFunc(slices.Clone(l), unfit)
	// Of one row the merge is the row itself, each Seq once.
	return merge.All([][]api.Entry{left}, false, 0)
}

// hasRoom: whether entries that are not there fit into the limit.
func (t *table) hasRoom(l []api.Entry) bool {
	bytes := t.bytes
	for _, x := range l {
		bytes += record.Size(x)
	}
	return bytes <= t.limit
}

// put: an entry that is not there is there. There must be room.
func (t *table) put(x api.Entry) {
	s := t.streamOf(x.Labels)
	t.bytes += record.Size(x)
	// The line is copied: it may be a piece of a text that is far longer.
	x.Labels, x.Line = s.labels, strings.Clone(x.Line)
	s.entries[x.Seq] = x
	t.owners[x.Seq] = s
	place, _ := slices.BinarySearch(t.seqs, x.Seq)
	t.seqs = slices.Insert(t.seqs, place, x.Seq)
}

// streamOf: the stream of these labels, a new one where there was none.
func (t *table) streamOf(l []api.Label) *stream {
	k := keyOf(l)
	if s, there := t.streams[k]; there {
		return s
	}
	s := newStream(k, t.begun)
	t.begun++
	t.streams[k] = s
	if t.Add(s.id, s.labels) != api.OK {
		t.loose[k] = s
	}
	return s
}

// drop: the entries up to that Seq go; how many.
func (t *table) drop(seq int) int {
	n, there := slices.BinarySearch(t.seqs, seq)
	if there {
		n++
	}
	for _, gone := range t.seqs[:n] {
		t.remove(gone)
	}
	t.seqs = t.seqs[n:]
	if len(t.seqs) == 0 {
		// A map keeps the room that it once had: an empty table begins anew.
		*t = *empty(t.limit)
	}
	return n
}

// remove: the entry of that Seq goes, and its stream, if it was the last one.
// It stays among the seqs.
func (t *table) remove(seq int) {
	s := t.owners[seq]
	t.bytes -= record.Size(s.entries[seq])
	delete(t.owners, seq)
	delete(s.entries, seq)
	if len(s.entries) > 0 {
		return
	}
	delete(t.streams, s.key)
	// One of the two knows nothing of it.
	delete(t.loose, s.key)
	t.Remove(s.id)
}

// fitting: the streams whose labels are as each Match asks, in no order.
func (t *table) fitting(l []matcher.Match) []*stream {
	var out []*stream
	for _, id := range matcher.Select(t.Index, l) {
		if labels, e := t.Labels(id); e == api.OK {
			out = append(out, t.streams[keyOf(labels)])
		}
	}
	for _, s := range t.loose {
		if matcher.Fits(l, s.labels) {
			out = append(out, s)
		}
	}
	return out
}

// find: the entries that the query asks for.
func (t *table) find(q matcher.Query) []api.Entry {
	if !matcher.Right(q) {
		return nil
	}
	// The labels are asked of the streams alone, not of each entry again.
	rest := q
	rest.Matches = nil
	var rows [][]api.Entry
	for _, s := range t.fitting(q.Matches) {
		row := record.Sort(s.taken(rest))
		if q.Newest {
			slices.Reverse(row)
		}
		rows = append(rows, row)
	}
	return merge.All(rows, q.Newest, q.Limit)
}
