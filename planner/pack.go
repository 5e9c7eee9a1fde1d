package planner

import (
	"cmp"
	"slices"
)

const (
	leastFan = 2
	mostFan  = 16
)

// packs: whether anything is packed by these rules.
func packs(r Rules) bool {
	return r.Fan >= leastFan && r.Fan <= mostFan && r.MaxBytes >= 1 && r.Keep >= 1
}

// order: by First, then by ID.
func order(a, b Meta) int {
	return cmp.Or(cmp.Compare(a.First, b.First), cmp.Compare(a.ID, b.ID))
}

// run: the first blocks of that level, one behind the other, that may be packed together.
func run(l []Meta, r Rules, level int) []Meta {
next:
	for i := range len(l) - r.Fan + 1 {
		found, size := l[i:i+r.Fan], 0
		for _, m := range found {
			size += m.Bytes
			if m.Level != level || size > r.MaxBytes {
				continue next
			}
		}
		return found
	}
	return nil
}

// Pack: those that are packed together next.
func Pack(l []Meta, r Rules, now int) []int {
	if !packs(r) {
		return nil
	}
	kept := those(l, func(m Meta) bool { return !isOver(m, r.Keep, now) })
	slices.SortFunc(kept, order)
	for level := range topLevel {
		if found := run(kept, r, level); len(found) > 0 {
			return ids(found)
		}
	}
	return nil
}

// sum is bound by what may not be, so that no list is so long that it runs over.
func sum(a, b int) int { return min(a+b, end) }

// both: the bounds, the sums and the greatest level of two blocks, with the first one's ID.
func both(a, b Meta) Meta {
	return Meta{
		ID:    a.ID,
		Least: min(a.Least, b.Least),
		Most:  max(a.Most, b.Most),
		First: min(a.First, b.First),
		Last:  max(a.Last, b.Last),
		Rows:  sum(a.Rows, b.Rows),
		Bytes: sum(a.Bytes, b.Bytes),
		Level: max(a.Level, b.Level),
	}
}

// Joined: the Meta of the block that these are packed to.
func Joined(l []Meta, id int) (Meta, bool) {
	if len(l) == 0 || !Fine(l) {
		return Meta{}, false
	}
	all := l[0]
	for _, m := range l[1:] {
		all = both(all, m)
	}
	all.ID = id
	all.Level++
	if !Right(all) {
		return Meta{}, false
	}
	return all, true
}
