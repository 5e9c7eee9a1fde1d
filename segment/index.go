package segment

import (
	"cmp"
	"maps"
	"slices"

	"icehouse/api"
	"icehouse/chunk"
	"icehouse/codec"
	"icehouse/join"
	"icehouse/matcher"
	"icehouse/postings"
)

// index: of each label the chunks that have it, rising.
type index map[api.Label][]int

func indexOf(chunks []chunk.Chunk) index {
	x := index{}
	for n, c := range chunks {
		for _, l := range c.Labels {
			x[l] = append(x[l], n)
		}
	}
	return x
}

// bytes: the index as a segment has it.
func (x index) bytes() ([]byte, api.Errno) {
	var all join.Bytes
	all.Add(codec.Number(len(x)))
	rising := func(a, b api.Label) int {
		return cmp.Or(cmp.Compare(a.Name, b.Name), cmp.Compare(a.Value, b.Value))
	}
	for _, l := range slices.SortedFunc(maps.Keys(x), rising) {
		all.Add(codec.Text(l.Name))
		all.Add(codec.Text(l.Value))
		all.AddText(postings.Put(x[l]))
	}
	return all.Done()
}

// mayFit: of so many chunks those that have each label that must be there.
// The others' labels can't be as each Match asks.
func (x index) mayFit(l []matcher.Match, chunks int) []int {
	var left []int
	for n := range chunks {
		left = append(left, n)
	}
	for _, m := range l {
		// To be "" is asked of what has no such label.
		if m.Op == matcher.Is && m.Value != "" {
			left = postings.And(left, x[api.Label{Name: m.Name, Value: m.Value}])
		}
	}
	return left
}
