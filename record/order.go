package record

import (
	"cmp"
	"slices"

	"icehouse/api"
)

// comparer knows the order of entries: by Time, then by Seq.
type comparer struct{}

// compare holds numbers of all sizes against each other: none is taken from
// another one, which could be more than fits.
func (comparer) compare(a, b api.Entry) int {
	return cmp.Or(cmp.Compare(a.Time, b.Time), cmp.Compare(a.Seq, b.Seq))
}

// Before: whether a stands ahead of b.
func Before(a, b api.Entry) bool {
	var order comparer
	return order.compare(a, b) < 0
}

// Sort: the entries in their order.
func Sort(l []api.Entry) []api.Entry {
	var order comparer
	sorted := slices.Clone(l)
	for i := range sorted {
		sorted[i].Labels = slices.Clone(sorted[i].Labels)
	}
	slices.SortStableFunc(sorted, order.compare)
	return sorted
}
