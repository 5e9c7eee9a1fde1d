package memtable

import (
	"icehouse/api"
	"icehouse/label"
	"icehouse/matcher"
)

// key: labels as a text: lists can't be compared.
type key string

func keyOf(l []api.Label) key { return key(label.Print(l)) }

// stream: the entries of one list of labels.
type stream struct {
	key    key
	id     int
	labels []api.Label
	// entries: by their Seqs; all of them have the stream's labels.
	entries map[int]api.Entry
}

// newStream: a stream without entries.
func newStream(k key, id int) *stream {
	// Read from the key the labels are new, each text of them.
	labels, _ := label.Parse(string(k))
	return &stream{key: k, id: id, labels: labels, entries: map[int]api.Entry{}}
}

// taken: its entries that the query takes, in no order.
func (s *stream) taken(q matcher.Query) []api.Entry {
	var out []api.Entry
	for _, x := range s.entries {
		if matcher.Takes(q, x) {
			out = append(out, x)
		}
	}
	return out
}
