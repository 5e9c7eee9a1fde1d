package postings

import (
	"cmp"
	"maps"
	"slices"

	"icehouse/api"
	"icehouse/label"
)

// set: numbers, each once.
type set = map[int]struct{}

// Index: numbers, each with labels.
type Index struct {
	// labels of each number; nil in an Index that New did not make.
	labels map[int][]api.Label
	// ids: under each name, and each value of it, the numbers that have it. A
	// name or a value that no number has any more is not kept.
	ids map[string]map[string]set
}

// New: an index without numbers.
func New() *Index {
	return &Index{labels: map[int][]api.Label{}, ids: map[string]map[string]set{}}
}

// there: OK, if the number is there.
func (x *Index) there(id int) api.Errno {
	if x == nil || x.labels == nil {
		return api.ErrArg
	}
	if _, ok := x.labels[id]; !ok {
		return api.ErrNone
	}
	return api.OK
}

// Add: one more number, with these labels.
func (x *Index) Add(id int, l []api.Label) api.Errno {
	e := x.there(id)
	switch {
	case e == api.ErrArg || !rightID(id):
		return api.ErrArg
	case !label.Right(l):
		return api.ErrLabel
	case e == api.OK:
		return api.ErrThere
	case len(x.labels) >= api.MaxList:
		return api.ErrFull
	}
	x.labels[id] = slices.Clone(l)
	for _, p := range l {
		under(under(x.ids, p.Name), p.Value)[id] = struct{}{}
	}
	return api.OK
}

// under: the map that stands by that key, a new one where none did.
func under[K, L comparable, V any](m map[K]map[L]V, key K) map[L]V {
	if m[key] == nil {
		m[key] = map[L]V{}
	}
	return m[key]
}

// Remove: the number goes.
func (x *Index) Remove(id int) api.Errno {
	if e := x.there(id); e != api.OK {
		return e
	}
	for _, p := range x.labels[id] {
		values := x.ids[p.Name]
		delete(values[p.Value], id)
		if len(values[p.Value]) == 0 {
			delete(values, p.Value)
		}
		if len(values) == 0 {
			delete(x.ids, p.Name)
		}
	}
	delete(x.labels, id)
	return api.OK
}

// Labels: those of the number.
func (x *Index) Labels(id int) ([]api.Label, api.Errno) {
	if e := x.there(id); e != api.OK {
		return nil, e
	}
	return slices.Clone(x.labels[id]), api.OK
}

// looked: what there is to look at: of a nil Index just what there is of one
// that New did not make: nothing.
func (x *Index) looked() Index {
	if x == nil {
		return Index{}
	}
	return *x
}

// keys: the map's keys, rising.
func keys[K cmp.Ordered, V any](m map[K]V) []K { return slices.Sorted(maps.Keys(m)) }

// All: the numbers.
func (x *Index) All() []int { return keys(x.looked().labels) }

// Of: the numbers with a label of that name and value.
func (x *Index) Of(name, value string) []int { return keys(x.looked().ids[name][value]) }

// With: the numbers with a label of that name.
func (x *Index) With(name string) []int {
	var all []int
	for _, ids := range x.looked().ids[name] {
		all = slices.AppendSeq(all, maps.Keys(ids))
	}
	return rising(all)
}

// Names: those that some label has.
func (x *Index) Names() []string { return keys(x.looked().ids) }

// Values: those that labels of that name have.
func (x *Index) Values(name string) []string { return keys(x.looked().ids[name]) }
