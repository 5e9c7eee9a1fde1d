package cache

// list: values that are linked both ways. The zero list has none.
type list[T any] struct{ first, last *node[T] }

// node: a value in a list, and the ones next to it; nil at an end of the list.
type node[T any] struct {
	value         T
	ahead, behind *node[T]
}

// add: the node stands last. It must not stand in a list.
func (l *list[T]) add(n *node[T]) {
	n.ahead, n.behind = l.last, nil
	if l.last == nil {
		l.first = n
	} else {
		l.last.behind = n
	}
	l.last = n
}

// remove: the node goes. It must stand in this list.
func (l *list[T]) remove(n *node[T]) {
	if n.ahead == nil {
		l.first = n.behind
	} else {
		n.ahead.behind = n.behind
	}
	if n.behind == nil {
		l.last = n.ahead
	} else {
		n.behind.ahead = n.ahead
	}
}
