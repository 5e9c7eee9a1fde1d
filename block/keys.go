package block

import "icehouse/numbered"

// Places in a row: of the data, of the meta.
const (
	dataAt = iota
	metaAt
)

// prefixes: of the keys of a block's objects.
func prefixes() [2]numbered.IDs { return [2]numbered.IDs{dataAt: "data/", metaAt: "meta/"} }

// each: what of makes of each prefix of a row.
func each[T any](row [2]numbered.IDs, of func(prefix numbered.IDs) T) [2]T {
	var out [2]T
	for at, prefix := range row {
		out[at] = of(prefix)
	}
	return out
}

// keys: of the id's objects.
func keys(id int) [2]string {
	return each(prefixes(), func(prefix numbered.IDs) string { return prefix.Of(id) })
}

// Data: the key of the id's data; "" without such an id.
func Data(id int) string { return keys(id)[dataAt] }

// Meta: the key of the id's meta; "" without such an id.
func Meta(id int) string { return keys(id)[metaAt] }

// ID: of which id, and whether of its meta, the key is; false of another key.
func ID(key string) (id int, meta, ok bool) {
	// No id is 0: that stands where the key does not have the prefix.
	ids := each(prefixes(), func(prefix numbered.IDs) int {
		id, _ := prefix.ID(key)
		return id
	})
	for at, id := range ids {
		if id != 0 {
			return id, at == metaAt, true
		}
	}
	return 0, false, false
}
