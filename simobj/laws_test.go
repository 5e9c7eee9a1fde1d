package simobj_test

import (
	"math/rand/v2"
	"slices"
	"strconv"
	"strings"
	"testing"

	"icehouse/api"
	"icehouse/simobj"
)

// chance: some step; keys are few, so that they go and come again.
func chance(r *rand.Rand, most int) step {
	key := []string{"a", "b", "c", "a/1", "a/2", "b/1"}[r.IntN(6)]
	switch n := r.IntN(40); {
	case n < 12:
		return step{"put", key, strings.Repeat("x", r.IntN(3)) + strconv.Itoa(r.IntN(100))}
	case n < 20:
		return step{"delete", key, ""}
	case n < 23:
		return step{"get", key, ""}
	case n < 29:
		return step{"list", []string{"", "a", "b", "a/", "a/1", "z"}[r.IntN(6)], ""}
	case n < 35:
		return step{"tick", strconv.Itoa(r.IntN(r.IntN(most+2) + 1)), ""}
	case n < 38:
		return step{"lag", strconv.Itoa(r.IntN(most + 1)), ""}
	case n < 39:
		return step{"fail", strconv.Itoa(r.IntN(4)), []string{"done", "not"}[r.IntN(2)]}
	}
	return step{"tick", strconv.Itoa(-r.IntN(2)), ""}
}

// TestP1102Any: many stores, all of whose answers the model tells, too.
func TestP1102Any(t *testing.T) {
	r := rand.New(rand.NewPCG(11, 1))
	for range 1000 {
		most := []int{0, 1, 2, 3, 5, 10, 100}[r.IntN(7)]
		w := twinOf(t, most)
		for range 100 {
			w.do(chance(r, most))
		}
		w.every()
		if t.Failed() {
			t.FailNow()
		}
	}
}

// P1103

// TestP1103AtOnce: Get tells what was Put last, if nothing was Deleted since.
func TestP1103AtOnce(t *testing.T) {
	r := rand.New(rand.NewPCG(11, 2))
	for range 500 {
		s, last := made(t, 10), map[string]string{}
		for range 100 {
			x := chance(r, 10)
			if x.call == "fail" {
				continue
			}
			ask(s, x)
			switch x.call {
			case "put":
				last[x.key] = x.more
			case "delete":
				delete(last, x.key)
			}
			for _, key := range []string{"a", "b", "c", "a/1", "a/2", "b/1"} {
				text, there := last[key]
				b, e := s.Get(key)
				if there && (e != api.OK || string(b) != text) || !there && (e != api.ErrNone || len(b) > 0) {
					t.Fatalf("Get(%s): %q %d, want %q %v", key, b, e, text, there)
				}
			}
		}
	}
}

// P1104, P1105

// watch: what keys there were behind each call, and when. It knows nothing of changes.
type watch struct {
	s       *simobj.Store
	moments []moment
}

type moment struct {
	time int
	keys []string
}

func watchOf(s *simobj.Store) *watch { return &watch{s, []moment{{0, nil}}} }

func (w *watch) do(x step) {
	ask(w.s, x)
	w.moments = append(w.moments, moment{w.s.Now(), w.s.Keys()})
}

// since: the moments from that time on, and what stood as it came; of the
// moments of the time itself the last one is what stood then.
func (w *watch) since(time int) []moment {
	first := 0
	for i, m := range w.moments {
		if m.time <= time {
			first = i
		}
	}
	return w.moments[first:]
}

// check: whether a list with that lag has what it must have, and nothing that it must not have.
func (w *watch) check(t *testing.T, lag int) {
	t.Helper()
	wantE(t, "Lag", w.s.Lag(lag), api.OK)
	got, e := w.s.List("")
	wantE(t, "List", e, api.OK)
	since := w.since(w.s.Now() - lag)
	for _, key := range []string{"a", "b", "c", "a/1", "a/2", "b/1"} {
		some, all := false, true
		for _, m := range since {
			there := slices.Contains(m.keys, key)
			some, all = some || there, all && there
		}
		has := slices.Contains(got, key)
		if all && !has {
			t.Fatalf("List with lag %d: %q lacks %s, which was there all the time", lag, got, key)
		}
		if !some && has {
			t.Fatalf("List with lag %d: %q has %s, which was not there at any time", lag, got, key)
		}
	}
}

func TestP1104Lists(t *testing.T) {
	r := rand.New(rand.NewPCG(11, 3))
	for range 500 {
		w := watchOf(made(t, 8))
		for range 60 {
			x := chance(r, 3)
			if x.call == "fail" {
				continue
			}
			w.do(x)
			w.check(t, r.IntN(9))
		}
		for lag := range 9 {
			w.check(t, lag)
		}
	}
}

// TestP1105Quiet: where nothing changed for longer than the lag.
func TestP1105Quiet(t *testing.T) {
	r := rand.New(rand.NewPCG(11, 4))
	for range 500 {
		most := r.IntN(20)
		s := made(t, most)
		for range 5 {
			for range 30 {
				ask(s, chance(r, most))
			}
			ask(s, step{"fail", "0", "not"})
			lag := r.IntN(most + 1)
			s.Lag(lag)
			for range 3 { // what changes nothing is as good as nothing
				s.Tick(r.IntN(lag + 1))
				for _, key := range s.Keys() {
					s.Put(key, []byte("anew"))
				}
				s.Delete("none-such")
			}
			s.Tick(lag + 1)
			for _, prefix := range []string{"", "a", "a/", "b/1", "c"} {
				var want []string
				for _, key := range s.Keys() {
					if strings.HasPrefix(key, prefix) {
						want = append(want, key)
					}
				}
				if got, e := s.List(prefix); !slices.Equal(got, want) || e != api.OK {
					t.Fatalf("List(%s): %q %d, want %q", prefix, got, e, want)
				}
			}
		}
	}
}

// TestP1105Edge: a change is told as soon as it is just the lag old.
func TestP1105Edge(t *testing.T) {
	for lag := range 101 {
		s := made(t, 100)
		s.Lag(lag)
		s.Put("a", nil)
		for age := range 102 {
			want := "0[]"
			if age >= lag {
				want = "0[a]"
			}
			if got := ask(s, step{"list", "", ""}); got != want {
				t.Fatalf("lag %d, age %d: %s, want %s", lag, age, got, want)
			}
			s.Tick(1)
		}
	}
}
