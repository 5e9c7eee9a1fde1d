package memtable_test

import (
	"math/rand/v2"
	"slices"
	"strings"
	"testing"

	"icehouse/api"
	"icehouse/matcher"
	"icehouse/record"
)

// anyLabels: labels that may be, of few names and values.
func anyLabels(r *rand.Rand) []api.Label {
	l := []api.Label{{Name: "a", Value: []string{"x", "y", "xy", "*"}[r.IntN(4)]}}
	for _, name := range []string{"b", "c"} {
		if r.IntN(2) == 0 {
			l = append(l, api.Label{Name: name, Value: []string{"x", "y"}[r.IntN(2)]})
		}
	}
	return l
}

// anyEntries: some, most of which may be, of few numbers and times.
func anyEntries(r *rand.Rand) []api.Entry {
	var l []api.Entry
	for range r.IntN(7) {
		x := api.Entry{Seq: 1 + r.IntN(40), Time: r.IntN(20), Labels: anyLabels(r), Line: strings.Repeat([]string{"u", "v", "uv"}[r.IntN(3)], r.IntN(30))}
		if r.IntN(60) == 0 {
			x.Labels = nil
		}
		if r.IntN(60) == 0 {
			x.Seq -= 45
		}
		l = append(l, x)
	}
	return l
}

// anyQuery: most of them may be.
func anyQuery(r *rand.Rand) matcher.Query {
	q := matcher.Query{From: r.IntN(12), To: api.MaxTime, Newest: r.IntN(2) == 0}
	if r.IntN(2) == 0 {
		q.To = 8 + r.IntN(14)
	}
	if r.IntN(2) == 0 {
		q.Limit = r.IntN(12)
	}
	q.Has = []string{"", "", "u", "v", "uv", "vu"}[r.IntN(6)]
	for range r.IntN(3) {
		m := matcher.Match{Name: []string{"a", "b", "c", "d"}[r.IntN(4)], Op: 1 + r.IntN(4), Value: []string{"", "x", "y", "x*", "?", "*", "|x", "x|y", "\\*"}[r.IntN(9)]}
		if r.IntN(60) == 0 {
			m.Op = 5
		}
		q.Matches = append(q.Matches, m)
	}
	return q
}

// each: many tables, of which many things are called; seen is asked behind each.
func each(t *testing.T, seed uint64, seen func(r *rand.Rand, w *twin)) {
	t.Helper()
	r := rand.New(rand.NewPCG(13, seed))
	for range 200 {
		w := twinOf(t, 1+r.IntN([]int{60, 400, 4000}[r.IntN(3)]))
		for range 40 {
			if r.IntN(4) == 0 {
				w.drop(r.IntN(45) - 2)
			} else {
				w.add(anyEntries(r))
			}
			seen(r, w)
		}
		if t.Failed() {
			t.FailNow()
		}
	}
}

// TestP1302Any: whatever is called, the table is as its model is.
func TestP1302Any(t *testing.T) {
	each(t, 4, func(r *rand.Rand, w *twin) {
		w.room(anyEntries(r))
		w.looks("any")
		for seq := -2; seq < 43; seq++ {
			if w.m.Has(seq) != w.has(seq) {
				t.Errorf("Has(%d): %v", seq, !w.has(seq))
			}
		}
	})
}

// TestP1303Any: likewise what is found.
func TestP1303Any(t *testing.T) {
	each(t, 5, func(r *rand.Rand, w *twin) {
		for range 4 {
			w.find(anyQuery(r))
		}
	})
}

// P1304

func TestP1304Bounds(t *testing.T) {
	full := 0
	each(t, 6, func(r *rand.Rand, w *twin) {
		n := w.m.Bytes()
		if n > w.limit {
			t.Errorf("%d bytes are there, the limit being %d", n, w.limit)
		}
		sum := 0
		for _, x := range w.m.All() {
			sum += record.Size(x)
		}
		wantN(t, "Bytes", n, sum)
		// To the last byte, where there is room for an entry at all.
		if left := w.limit - n; left >= 9 && left <= 100 && !w.has(50) {
			wantE(t, "too much", w.add([]api.Entry{sized(50, left+1)}), api.ErrBusy)
			w.must(sized(50, left))
			wantN(t, "Bytes", w.m.Bytes(), w.limit)
			full++
		}
	})
	if full < 100 {
		t.Error("few tables were full:", full)
	}
}

// P1305

// TestP1305JustThese: what is found is there, fits, and stands in the order;
// and what is there, fits and is not found, the limit has cut off at the end.
func TestP1305JustThese(t *testing.T) {
	hits := 0
	each(t, 7, func(r *rand.Rand, w *twin) {
		q := anyQuery(r)
		got := w.m.Find(q)
		hits += len(got)
		for i, x := range got {
			if !slices.ContainsFunc(w.l, func(y api.Entry) bool { return told([]api.Entry{x}) == told([]api.Entry{y}) }) {
				t.Errorf("found, but not there: %s", told(got[i:i+1]))
			}
			if !matcher.Takes(q, x) {
				t.Errorf("found, but does not fit: %s", told(got[i:i+1]))
			}
			if i > 0 && (q.Newest && !record.Before(x, got[i-1]) || !q.Newest && !record.Before(got[i-1], x)) {
				t.Errorf("not in the order: %s", told(got))
			}
		}
		if q.Limit > 0 && len(got) > q.Limit {
			t.Errorf("%d were found, the limit being %d", len(got), q.Limit)
		}
		for _, x := range w.l {
			found := slices.ContainsFunc(got, func(y api.Entry) bool { return x.Seq == y.Seq })
			if found || !matcher.Takes(q, x) {
				continue
			}
			if q.Limit == 0 || len(got) < q.Limit {
				t.Fatalf("missing: %s", told([]api.Entry{x}))
			}
			last := got[len(got)-1]
			if q.Newest && !record.Before(x, last) || !q.Newest && !record.Before(last, x) {
				t.Errorf("cut off, but not at the end: %s", told([]api.Entry{x}))
			}
		}
	})
	if hits < 1000 {
		t.Error("little was found:", hits)
	}
}

// TestP1305Parts: what two queries find that part the times is what both together find.
func TestP1305Parts(t *testing.T) {
	each(t, 8, func(r *rand.Rand, w *twin) {
		q := anyQuery(r)
		q.Limit = 0
		if !matcher.Right(q) {
			return
		}
		early, late := q, q
		early.To = q.From + r.IntN(q.To-q.From+1)%20
		late.From = early.To
		parts := [][]api.Entry{w.m.Find(early), w.m.Find(late)}
		if q.Newest {
			slices.Reverse(parts)
		}
		wantTold(t, "the parts", slices.Concat(parts...), w.m.Find(q))
	})
}
