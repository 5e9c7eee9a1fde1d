package block_test

import (
	"fmt"
	"math/rand/v2"
	"slices"
	"strings"
	"testing"

	"icehouse/api"
	"icehouse/block"
	"icehouse/planner"
	"icehouse/simobj"
)

// life: a store on which blocks come and go, by whatever faults, an id always
// with the same bytes and level; and what Read may tell of each.
type life struct {
	t        *testing.T
	s        *simobj.Store
	bytes    map[int][]byte
	uploaded map[int]bool // an Upload was OK
	whole    map[int]bool // likewise, and no Delete was asked since
	may      map[int]bool // a Commit was asked, and no Delete was OK since
	must     map[int]bool // a Commit of what was whole was OK, and no Delete was asked since
	did      []string
	was      map[api.Errno]int
}

func newLife(t *testing.T, ids ...int) *life {
	t.Helper()
	l := &life{t: t, s: store(t), bytes: map[int][]byte{}, was: map[api.Errno]int{}}
	l.uploaded, l.whole, l.may, l.must = map[int]bool{}, map[int]bool{}, map[int]bool{}, map[int]bool{}
	for _, id := range ids {
		l.bytes[id] = data(t, id%100)
	}
	return l
}

func levelOf(id int) int { return id % 21 }

// do: a call, with the kth call of the store failing, done or not (0: none does).
func (l *life) do(call string, id, k int, done bool) {
	l.t.Helper()
	l.s.Fail(k, done)
	var e api.Errno
	switch call {
	case "upload":
		_, e = block.Upload(l.s, id, levelOf(id), l.bytes[id])
		l.uploaded[id] = l.uploaded[id] || e == api.OK
		l.whole[id] = l.whole[id] || e == api.OK
	case "commit":
		if !l.uploaded[id] {
			return
		}
		_, e = block.Commit(l.s, id, levelOf(id), l.bytes[id])
		l.may[id] = true
		l.must[id] = l.must[id] || l.whole[id] && e == api.OK
	case "delete":
		e = block.Delete(l.s, id)
		l.whole[id], l.must[id] = false, false
		if e == api.OK {
			l.may[id] = false
		}
	}
	l.s.Fail(0, false)
	l.did = append(l.did, fmt.Sprintf("%s %d (%d %v): %d", call, id, k, done, e))
	l.looks()
}

// looks: what Read tells of each id.
func (l *life) looks() {
	l.t.Helper()
	for id, b := range l.bytes {
		want, _ := describe(id, levelOf(id), b)
		m, got, e := block.Read(l.s, id)
		l.was[e]++
		switch {
		case e == api.OK && (m != want || string(got) != string(b)):
			l.t.Fatalf("%s: Read(%d): %v %q, want %v %q", strings.Join(l.did, ", "), id, m, got, want, b)
		case e == api.OK && !l.may[id]:
			l.t.Fatalf("%s: Read(%d): OK", strings.Join(l.did, ", "), id)
		case e != api.OK && (l.must[id] || e != api.ErrNone || m != (planner.Meta{}) || len(got) > 0):
			l.t.Fatalf("%s: Read(%d): %v %q %d", strings.Join(l.did, ", "), id, m, got, e)
		}
	}
}

// P1604

// TestP1604All: all rows of four calls, each without a fault and with each one.
func TestP1604All(t *testing.T) {
	type deed struct {
		call string
		k    int
		done bool
	}
	var deeds []deed
	for call, steps := range map[string]int{"upload": 1, "commit": 1, "delete": 2} {
		deeds = append(deeds, deed{call, 0, false})
		for k := 1; k <= steps; k++ {
			deeds = append(deeds, deed{call, k, false}, deed{call, k, true})
		}
	}
	was := map[api.Errno]int{}
	n := len(deeds)
	for row := range n * n * n * n {
		l := newLife(t, 3)
		for range 4 {
			x := deeds[row%n]
			row /= n
			l.do(x.call, 3, x.k, x.done)
		}
		for e, count := range l.was {
			was[e] += count
		}
	}
	if was[api.OK] < 1000 || was[api.ErrNone] < 1000 || len(was) != 2 {
		t.Error(was)
	}
}

// TestP1604Lives: many calls, of several blocks.
func TestP1604Lives(t *testing.T) {
	r := rand.New(rand.NewPCG(16, 6))
	was := map[api.Errno]int{}
	for range 300 {
		l := newLife(t, 1, 2, 20, 41, most)
		l.s.Lag(r.IntN(20))
		for range 60 {
			id := []int{1, 2, 20, 41, most}[r.IntN(5)]
			call := []string{"upload", "upload", "commit", "commit", "delete"}[r.IntN(5)]
			k := 0
			if r.IntN(2) == 0 {
				k = 1 + r.IntN(2)
			}
			l.do(call, id, k, r.IntN(2) == 0)
			l.s.Tick(r.IntN(4))
		}
		for e, count := range l.was {
			was[e] += count
		}
	}
	if was[api.OK] < 10000 || was[api.ErrNone] < 10000 || len(was) != 2 {
		t.Error(was)
	}
}

// TestP1604Full: where a store has no room, too.
func TestP1604Full(t *testing.T) {
	r := rand.New(rand.NewPCG(16, 7))
	l := newLife(t, 1, 2, 3)
	for n := range api.MaxObject - 3 {
		lay(t, l.s, fmt.Sprint("other/", n), nil)
	}
	for range 1000 {
		l.do([]string{"upload", "commit", "commit", "delete"}[r.IntN(4)], 1+r.IntN(3), r.IntN(4), r.IntN(2) == 0)
	}
	if l.was[api.OK] < 300 || l.was[api.ErrNone] < 300 {
		t.Error(l.was)
	}
}

// P1605

// TestP1605Again: a call that is done again, whatever is there: what the store has, and what it lists, now and later.
func TestP1605Again(t *testing.T) {
	b := data(t, 3)
	calls := map[string]func(s *simobj.Store) string{
		"Upload": func(s *simobj.Store) string { m, e := block.Upload(s, 5, 1, b); return fmt.Sprint(m, e) },
		"Commit": func(s *simobj.Store) string { m, e := block.Commit(s, 5, 1, b); return fmt.Sprint(m, e) },
		"Delete": func(s *simobj.Store) string { return fmt.Sprint(block.Delete(s, 5)) },
	}
	for what, call := range calls {
		for start, begin := range starts(t) {
			for lag := range 6 {
				s, once := store(t), store(t)
				for _, s := range []*simobj.Store{s, once} {
					s.Lag(lag)
					s.Tick(3)
					begin(s)
					s.Tick(3)
				}
				first := call(s)
				call(once)
				for range 6 {
					s.Tick(1)
					once.Tick(1)
					if again := call(s); again != first {
						t.Errorf("%s, where there was %s: %s, and again: %s", what, start, first, again)
					}
					got, _ := block.List(s)
					want, _ := block.List(once)
					if has(s) != has(once) || !slices.Equal(got, want) {
						t.Errorf("%s, where there was %s, again: there is %s, listed %v; want %s, %v", what, start, has(s), got, has(once), want)
					}
				}
			}
		}
	}
}

// TestP1605Faults: a call that failed, done again till it is OK, is as if it had been OK at once.
func TestP1605Faults(t *testing.T) {
	b := data(t, 3)
	for call, ask := range map[string]func(s *simobj.Store) api.Errno{
		"Upload": func(s *simobj.Store) api.Errno { _, e := block.Upload(s, 5, 1, b); return e },
		"Commit": func(s *simobj.Store) api.Errno { _, e := block.Commit(s, 5, 1, b); return e },
		"Delete": func(s *simobj.Store) api.Errno { return block.Delete(s, 5) },
	} {
		for start, begin := range starts(t) {
			for k := 1; k <= 3; k++ {
				for _, done := range []bool{false, true} {
					s, once := store(t), store(t)
					begin(s)
					begin(once)
					s.Fail(k, done)
					for ask(s) != api.OK {
					}
					s.Fail(0, false)
					wantE(t, call, ask(once), api.OK)
					for range 2 {
						if has(s) != has(once) {
							t.Errorf("%s, where there was %s, a fault at %d: there is %s, want %s", call, start, k, has(s), has(once))
						}
						wantE(t, call, ask(s), api.OK)
					}
				}
			}
		}
	}
}
