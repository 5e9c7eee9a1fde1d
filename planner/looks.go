package planner

// those: the blocks of the list that are meant, in its order; none of a list
// that is not fine.
func those(l []Meta, meant func(m Meta) bool) []Meta {
	if !Fine(l) {
		return nil
	}
	var out []Meta
	for _, m := range l {
		if meant(m) {
			out = append(out, m)
		}
	}
	return out
}

func ids(l []Meta) []int {
	var out []int
	for _, m := range l {
		out = append(out, m.ID)
	}
	return out
}

// Look: those that may have an entry of a time from from to below to.
func Look(l []Meta, from, to int) []int {
	return ids(those(l, func(m Meta) bool { return m.Least < to && m.Most >= from }))
}

// isOver: whether all entries of the block are over.
func isOver(m Meta, keep, now int) bool {
	// Most is not below 0, so that behind it the difference is what it truly is.
	return keep >= 1 && now > m.Most && now-m.Most >= keep
}

// Over: those all of whose entries are over.
func Over(l []Meta, keep, now int) []int {
	return ids(those(l, func(m Meta) bool { return isOver(m, keep, now) }))
}
