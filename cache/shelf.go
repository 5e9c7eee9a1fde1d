package cache

// element: a value, and the key that it stands by.
type element struct {
	key   string
	value []byte
}

func (x element) size() int { return len(x.key) + len(x.value) }

// shelf: what a cache keeps. The zero shelf has no element, and takes none.
type shelf struct {
	limit, used  int
	hits, misses int
	// uses: the elements, what was used first ahead.
	uses list[element]
	// places: where among the uses each key's element stands.
	places map[string]*node[element]
}

// put: the element is there, used last. There must be room for it.
func (s *shelf) put(x element) {
	n := &node[element]{value: x}
	s.uses.add(n)
	s.places[x.key] = n
	s.used += x.size()
}

// remove: whether the key has an element; it goes.
func (s *shelf) remove(key string) bool {
	n, there := s.places[key]
	if !there {
		return false
	}
	s.uses.remove(n)
	delete(s.places, key)
	s.used -= n.value.size()
	return true
}

// makeRoom: what was used first goes, till there is room for so many bytes.
// They must not be above the limit.
func (s *shelf) makeRoom(size int) {
	for s.used+size > s.limit {
		s.remove(s.uses.first.value.key)
	}
}

// use: the node's element is used last.
func (s *shelf) use(n *node[element]) {
	s.uses.remove(n)
	s.uses.add(n)
}
