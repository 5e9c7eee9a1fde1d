package simobj

import (
	"bytes"
	"iter"
	"maps"
	"slices"
	"strings"

	"icehouse/api"
	"icehouse/standin"
)

// room: what a store holds, and what befalls it.
type room struct {
	objects map[string][]byte
	changes []change // in their order, as far back as a lag may reach
	clock   int
	lag     int
	most    int // the greatest lag
	calls   int
	failure standin.Failure
}

// change: a key came, or went.
type change struct {
	time int
	key  string
	came bool
}

// call: what it does is done, step by step, or not, as the failure says; one that just looks does nothing.
func (r *room) call(does ...func()) api.Errno {
	r.calls++
	done, e := r.failure.Next()
	if done {
		for _, step := range does {
			step()
		}
	}
	return e
}

func (r *room) has(key string) bool {
	_, there := r.objects[key]
	return there
}

// full: whether there is no room for an object with that key.
func (r *room) full(key string) bool { return len(r.objects) >= api.MaxObject && !r.has(key) }

// noting: the change of a key that is there from now on, or is not; none where it was so already.
func (r *room) noting(key string, there bool) func() {
	return func() {
		if r.has(key) != there {
			r.note(key, there)
		}
	}
}

func (r *room) holding(key string, b []byte) func() {
	return func() { r.objects[strings.Clone(key)] = bytes.Clone(b) }
}

func (r *room) dropping(key string) func() {
	return func() { delete(r.objects, key) }
}

// note: keys that are kept are copied: they may be pieces of texts that are far longer.
func (r *room) note(key string, came bool) {
	r.changes = append(r.changes, change{r.clock, strings.Clone(key), came})
	r.forget()
}

// forget: the changes that no lag that may be reaches.
func (r *room) forget() {
	for i, c := range r.changes {
		if c.time > r.clock-r.most {
			r.changes = slices.Delete(r.changes, 0, i)
			return
		}
	}
	r.changes = nil
}

// late: the changes that a List does not tell yet, from the last one backward.
func (r *room) late() iter.Seq[change] {
	return func(yield func(change) bool) {
		for _, c := range slices.Backward(r.changes) {
			if c.time <= r.clock-r.lag || !yield(c) {
				return
			}
		}
	}
}

// listed: the keys with that beginning, each late change taken back.
func (r *room) listed(prefix string) []string {
	keys := map[string]struct{}{}
	for key := range r.objects {
		keys[key] = struct{}{}
	}
	for c := range r.late() {
		if c.came {
			delete(keys, c.key)
		} else {
			keys[c.key] = struct{}{}
		}
	}
	maps.DeleteFunc(keys, func(key string, _ struct{}) bool { return !strings.HasPrefix(key, prefix) })
	return slices.Sorted(maps.Keys(keys))
}
