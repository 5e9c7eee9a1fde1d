package numbered

import "slices"

const (
	idDigits = 13
	// idEnd stands behind the greatest id.
	idEnd = 1 << 40
)

// RightID: whether n is an id: from 1 to 2^40 - 1.
func RightID(n int) bool { return 1 <= n && n < idEnd }

// IDs: names of ids alone, that have this beginning.
type IDs string

func (s IDs) names() Names { return Names{Beginning: string(s), Digits: idDigits} }

// Of: the id's name; "" without such an id.
func (s IDs) Of(id int) string {
	if !RightID(id) {
		return ""
	}
	return s.names().Of(id)
}

// ID: the id that has the name; false of another name.
func (s IDs) ID(name string) (int, bool) {
	id, some := s.names().Number(name)
	if !some || !RightID(id) {
		return 0, false
	}
	return id, true
}

// In: the ids that have one of these names, as the names stand.
func (s IDs) In(names []string) []int {
	wrong := func(n int) bool { return !RightID(n) }
	return slices.DeleteFunc(s.names().In(names), wrong)
}
