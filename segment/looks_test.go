package segment_test

import (
	"fmt"
	"math"
	"math/rand/v2"
	"slices"
	"strings"
	"testing"

	"icehouse/api"
	"icehouse/matcher"
	"icehouse/planner"
	"icehouse/segment"
)

// P1403

func TestP1403Numbers(t *testing.T) {
	for _, c := range []struct {
		l            []api.Entry
		rows, chunks int
	}{
		{run(1, 1), 1, 1}, {run(1, 2), 2, 2}, {run(1, 9), 9, 2}, {few(), 7, 6}, {append(few(), few()...), 7, 6},
		{run(1, 2000), 2000, 2}, {run(1, 2001), 2001, 3}, {run(1, 2002), 2002, 4}, {ownStreams(50), 50, 50},
	} {
		w := twinOf(t, c.l...)
		wantN(t, "Rows", w.s.Rows(), c.rows)
		wantN(t, "Chunks", w.s.Chunks(), c.chunks)
		w.looks("numbers")
	}
}

// TestP1403Meta: the bounds, also where they are of several chunks, and the
// least time has not the least number.
func TestP1403Meta(t *testing.T) {
	for _, c := range []struct {
		l                        []api.Entry
		least, most, first, last int
	}{
		{[]api.Entry{entry(5, 9, "a=x", "u")}, 9, 9, 5, 5},
		{[]api.Entry{entry(1, 0, "a=x", "u")}, 0, 0, 1, 1},
		{[]api.Entry{entry(api.MaxSeq-1, api.MaxTime-1, "a=x", "u")}, api.MaxTime - 1, api.MaxTime - 1, api.MaxSeq - 1, api.MaxSeq - 1},
		{[]api.Entry{entry(9, 3, "a=x", "u"), entry(4, 7, "a=x", "u")}, 3, 7, 4, 9},
		{[]api.Entry{entry(9, 3, "a=x", "u"), entry(4, 7, "a=y", "u"), entry(6, 5, "b=x", "u")}, 3, 7, 4, 9},
		{[]api.Entry{entry(6, 5, "a=x", "u"), entry(4, 7, "a=y", "u"), entry(9, 3, "b=x", "u")}, 3, 7, 4, 9},
		{[]api.Entry{entry(1, api.MaxTime-1, "a=x", "u"), entry(api.MaxSeq-1, 0, "b=x", "u")}, 0, api.MaxTime - 1, 1, api.MaxSeq - 1},
		{few(), 10, 40, 1, 9},
	} {
		w := twinOf(t, c.l...)
		want := planner.Meta{ID: 1, Least: c.least, Most: c.most, First: c.first, Last: c.last, Rows: len(c.l), Bytes: len(w.b)}
		if m, e := w.s.Meta(1, 0); m != want || e != api.OK {
			t.Errorf("%s: %v %d, want %v", told(c.l), m, e, want)
		}
	}
}

// TestP1403MetaOf: ids and levels at and beyond their limits.
func TestP1403MetaOf(t *testing.T) {
	w := twinOf(t, few()...)
	ids := map[int]bool{math.MinInt: false, -1: false, 0: false, 1: true, 2: true, 77: true, 1<<40 - 1: true, 1 << 40: false, 1<<40 + 1: false, math.MaxInt: false}
	levels := map[int]bool{math.MinInt: false, -1: false, 0: true, 1: true, 19: true, 20: true, 21: false, 1 << 40: false, math.MaxInt: false}
	for id, rightID := range ids {
		for level, rightLevel := range levels {
			want, wantE := planner.Meta{ID: id, Least: 10, Most: 40, First: 1, Last: 9, Rows: 7, Bytes: len(w.b), Level: level}, api.OK
			if !rightID || !rightLevel {
				want, wantE = planner.Meta{}, api.ErrArg
			}
			if m, e := w.s.Meta(id, level); m != want || e != wantE {
				t.Errorf("Meta(%d, %d): %v %d, want %v %d", id, level, m, e, want, wantE)
			}
		}
	}
}

// TestP1403Entries: in their order, of all streams and chunks.
func TestP1403Entries(t *testing.T) {
	var seqs []int
	for _, x := range twinOf(t, few()...).s.Entries() {
		seqs = append(seqs, x.Seq)
	}
	if !slices.Equal(seqs, []int{8, 9, 1, 2, 7, 4, 3}) {
		t.Error(seqs)
	}
	w := twinOf(t, run(1, 3000)...)
	wantTold(t, "Entries", w.s.Entries(), run(1, 3000))
}

// found: the Seqs of what a query finds, as a text.
func found(w *twin, text string) string {
	var out []string
	for _, x := range w.find(query(w.t, text)) {
		out = append(out, fmt.Sprint(x.Seq))
	}
	return strings.Join(out, " ")
}

// TestP1403Find: of each kind of match, of lines, times, both ways, up to a limit.
func TestP1403Find(t *testing.T) {
	w := twinOf(t, few()...)
	for text, want := range map[string]string{
		`{}`:                             "8 9 1 2 7 4 3",
		`{} newest`:                      "3 4 7 2 1 9 8",
		`{app="web"}`:                    "8 2 7 4",
		`{app="we"}`:                     "",
		`{app="a"}`:                      "",
		`{env="a"}`:                      "1 7 4",
		`{app!="web"}`:                   "9 1 3",
		`{app=""}`:                       "3",
		`{app!=""}`:                      "8 9 1 2 7 4",
		`{app=~"w*|d?"}`:                 "8 9 1 2 7 4",
		`{app=~"web"}`:                   "8 2 7 4",
		`{app=~""}`:                      "3",
		`{app=~"*"}`:                     "8 9 1 2 7 4 3",
		`{app!~"w*"}`:                    "9 1 3",
		`{env=~"|a"}`:                    "8 9 1 7 4",
		`{none=""}`:                      "8 9 1 2 7 4 3",
		`{none="x"}`:                     "",
		`{none!="x"}`:                    "8 9 1 2 7 4 3",
		`{none!~"*"}`:                    "",
		`{app="web", env="a"}`:           "7 4",
		`{env="a", app="web"}`:           "7 4",
		`{app="web", env=""}`:            "8",
		`{app="web", env!="a"}`:          "8 2",
		`{app="web", app="db"}`:          "",
		`{app="web", app="web"}`:         "8 2 7 4",
		`{app="web", app!="web"}`:        "",
		`{env=~"?", app!~"d*"}`:          "2 7 4 3",
		`{} has "get"`:                   "8 7 4 3",
		`{} has "nowhere"`:               "",
		`{app="db"} has "get"`:           "",
		`{env="b"} has "get"`:            "3",
		`{} from 10`:                     "8 9 1 2 7 4 3",
		`{} from 11`:                     "1 2 7 4 3",
		`{} from 40`:                     "3",
		`{} from 41`:                     "",
		`{} to 0`:                        "",
		`{} to 10`:                       "",
		`{} to 11`:                       "8 9",
		`{} to 40`:                       "8 9 1 2 7 4",
		`{} to 41`:                       "8 9 1 2 7 4 3",
		`{} from 20 to 20`:               "",
		`{} from 20 to 21`:               "1 2 7",
		`{} from 20 to 21 newest`:        "7 2 1",
		`{env="a"} from 20 to 30 newest`: "7 1",
		`{} limit 1`:                     "8",
		`{} limit 6`:                     "8 9 1 2 7 4",
		`{} limit 7`:                     "8 9 1 2 7 4 3",
		`{} limit 8`:                     "8 9 1 2 7 4 3",
		`{} limit 10000`:                 "8 9 1 2 7 4 3",
		`{} limit 1 newest`:              "3",
		`{} limit 6 newest`:              "3 4 7 2 1 9",
		`{app="web"} limit 3`:            "8 2 7",
		`{app="web"} limit 3 newest`:     "4 7 2",
		`{app="web"} has "x" limit 1`:    "7",
		`{app!~"w*"} from 11 to 41`:      "1 3",
	} {
		if got := found(w, text); got != want {
			t.Errorf("%s: %s, want %s", text, got, want)
		}
	}
	w.looks("looked at")
}

// wrongQueries: such as may not be.
func wrongQueries() []matcher.Query {
	out := []matcher.Query{
		{From: -1, To: 5}, {From: 6, To: 5}, {To: api.MaxTime + 1}, {To: -1}, {From: math.MinInt, To: math.MaxInt}, {From: 1},
		{To: 99, Limit: -1}, {To: 99, Limit: 10001}, {To: 99, Limit: math.MinInt}, {To: 99, Limit: math.MaxInt, Newest: true},
		{To: 99, Has: "\xff"}, {To: 99, Has: strings.Repeat("u", api.MaxLine+1)}, {To: 99, Matches: make([]matcher.Match, 9)},
	}
	for _, m := range []matcher.Match{{}, {Name: "a"}, {Name: "a", Op: 5}, {Name: "a", Op: -1}, {Name: "", Op: 1}, {Name: "0", Op: 2}, {Name: "app", Op: 2, Value: "\xff"}, {Name: "app", Op: 4, Value: strings.Repeat("v", 129)}} {
		out = append(out, matcher.Query{To: api.MaxTime, Matches: []matcher.Match{m}})
	}
	nine := slices.Repeat([]matcher.Match{{Name: "none", Op: matcher.Is}}, 9)
	return append(out, matcher.Query{To: api.MaxTime, Matches: nine})
}

func TestP1403WrongQueries(t *testing.T) {
	w := twinOf(t, append(few(), entry(20, 0, "a=x", "\xff"), entry(21, 5, "a=x", "u"))...)
	for _, q := range wrongQueries() {
		if l := w.find(q); len(l) != 0 {
			t.Errorf("%+v: %s", q, told(l))
		}
	}
	// The like ones that may be.
	nine := wrongQueries()[21].Matches
	wantN(t, "eight matches", len(w.find(matcher.Query{To: api.MaxTime, Matches: nine[:8]})), 9)
	wantN(t, "the greatest limit", len(w.find(matcher.Query{To: api.MaxTime, Limit: 10000})), 9)
	wantN(t, "the longest line", len(w.find(matcher.Query{To: api.MaxTime, Has: strings.Repeat("u", api.MaxLine)})), 0)
}

// TestP1403Limit: more entries than the greatest Limit, in one stream and in many.
func TestP1403Limit(t *testing.T) {
	for _, l := range [][]api.Entry{run(1, 10002), ownStreams(10002)} {
		b, e := segment.Encode(l)
		wantE(t, "Encode", e, api.OK)
		s, e := segment.Decode(b)
		wantE(t, "Decode", e, api.OK)
		for _, limit := range []int{0, 1, 9999, 10000} {
			for _, newest := range []bool{false, true} {
				want := slices.Clone(l)
				if newest {
					slices.Reverse(want)
				}
				if limit > 0 {
					want = want[:limit]
				}
				wantTold(t, "Find", s.Find(matcher.Query{To: api.MaxTime, Limit: limit, Newest: newest}), want)
			}
		}
	}
}

// TestP1403Random: what any query finds is what a table of the same entries finds.
func TestP1403Random(t *testing.T) {
	r := rand.New(rand.NewPCG(14, 2))
	some := 0
	for range 300 {
		w := twinOf(t, anyEntries(r)...)
		w.looks("any")
		for range 20 {
			some += len(w.find(anyQuery(r)))
		}
	}
	if some < 1000 {
		t.Errorf("only %d were found", some)
	}
}
