package memtable_test

import (
	"fmt"
	"math"
	"math/rand/v2"
	"slices"
	"strings"
	"testing"

	"icehouse/api"
	"icehouse/matcher"
)

// few: a table of some entries, at times that several share.
func few(t *testing.T) *twin {
	t.Helper()
	return twinOf(t, 4096).must(
		entry(4, 30, "app=web env=a", "get /"), entry(9, 10, "app=db", "slow"), entry(2, 20, "app=web env=b", "put /"),
		entry(7, 20, "app=web env=a", "get /x"), entry(1, 20, "app=db env=a", ""), entry(3, 40, "env=b", "get"), entry(8, 10, "app=web", "\xff get"),
	)
}

// P1303

// TestP1303All: in their order, in whatever order they came.
func TestP1303All(t *testing.T) {
	l := few(t).l
	var want []int
	for _, x := range l {
		want = append(want, x.Seq)
	}
	if !slices.Equal(want, []int{8, 9, 1, 2, 7, 4, 3}) {
		t.Error(want)
	}
	r := rand.New(rand.NewPCG(13, 1))
	for range 100 {
		w := twinOf(t, 4096)
		for _, i := range r.Perm(len(l)) {
			w.must(l[i])
		}
		w.looks("one by one")
		w = twinOf(t, 4096)
		mixed := slices.Clone(l)
		r.Shuffle(len(mixed), func(i, j int) { mixed[i], mixed[j] = mixed[j], mixed[i] })
		w.must(mixed...)
		w.looks("at once")
	}
}

// found: the Seqs of what a query finds, as a text.
func found(w *twin, text string) string {
	var out []string
	for _, x := range w.find(query(w.t, text)) {
		out = append(out, fmt.Sprint(x.Seq))
	}
	return strings.Join(out, " ")
}

// TestP1303Find: of each kind of match, of lines, times, both ways, up to a limit.
func TestP1303Find(t *testing.T) {
	w := few(t)
	for text, want := range map[string]string{
		`{}`:                         "8 9 1 2 7 4 3",
		`{} newest`:                  "3 4 7 2 1 9 8",
		`{app="web"}`:                "8 2 7 4",
		`{app!="web"}`:               "9 1 3",
		`{app=""}`:                   "3",
		`{app!=""}`:                  "8 9 1 2 7 4",
		`{app=~"w*|d?"}`:             "8 9 1 2 7 4",
		`{app=~"?"}`:                 "",
		`{app=~"*"}`:                 "8 9 1 2 7 4 3",
		`{app!~"w*"}`:                "9 1 3",
		`{env=~"|a"}`:                "8 9 1 7 4",
		`{none=""}`:                  "8 9 1 2 7 4 3",
		`{none="x"}`:                 "",
		`{none!="x"}`:                "8 9 1 2 7 4 3",
		`{app="web", env="a"}`:       "7 4",
		`{app="web", env!="a"}`:      "8 2",
		`{app="web", app="db"}`:      "",
		`{app="web", app!="web"}`:    "",
		`{env=~"?", app!~"d*"}`:      "2 7 4 3",
		`{} has "get"`:               "8 7 4 3",
		`{} has "/"`:                 "2 7 4",
		`{app="db"} has "get"`:       "",
		`{env="b"} has "get"`:        "3",
		`{} from 10`:                 "8 9 1 2 7 4 3",
		`{} from 11`:                 "1 2 7 4 3",
		`{} from 20`:                 "1 2 7 4 3",
		`{} from 40`:                 "3",
		`{} from 41`:                 "",
		`{} to 10`:                   "",
		`{} to 11`:                   "8 9",
		`{} to 20`:                   "8 9",
		`{} to 21`:                   "8 9 1 2 7",
		`{} to 40`:                   "8 9 1 2 7 4",
		`{} to 41`:                   "8 9 1 2 7 4 3",
		`{} from 20 to 20`:           "",
		`{} from 20 to 21`:           "1 2 7",
		`{} from 20 to 21 newest`:    "7 2 1",
		`{} limit 1`:                 "8",
		`{} limit 6`:                 "8 9 1 2 7 4",
		`{} limit 7`:                 "8 9 1 2 7 4 3",
		`{} limit 8`:                 "8 9 1 2 7 4 3",
		`{} limit 10000`:             "8 9 1 2 7 4 3",
		`{} limit 1 newest`:          "3",
		`{} limit 6 newest`:          "3 4 7 2 1 9",
		`{app="web"} limit 3`:        "8 2 7",
		`{app="web"} limit 3 newest`: "4 7 2",
		`{app="web"} has "x" from 20 to 30 limit 1 newest`: "7",
	} {
		if got := found(w, text); got != want {
			t.Errorf("%s: %s, want %s", text, got, want)
		}
	}
	w.looks("looked at")
}

// wrongQueries: such as may not be.
func wrongQueries() []matcher.Query {
	out := []matcher.Query{
		{From: -1, To: 5}, {From: 6, To: 5}, {To: api.MaxTime + 1}, {To: -1}, {From: math.MinInt, To: math.MaxInt}, {From: 1},
		{To: 9, Limit: -1}, {To: 9, Limit: 10001}, {To: 9, Limit: math.MinInt}, {To: 9, Limit: math.MaxInt, Newest: true},
		{To: 9, Has: "\xff"}, {To: 9, Has: strings.Repeat("u", api.MaxLine+1)}, {To: 9, Matches: make([]matcher.Match, 9)},
	}
	for _, m := range []matcher.Match{{}, {Name: "a"}, {Name: "a", Op: 5}, {Name: "a", Op: -1}, {Name: "", Op: 1}, {Name: "0", Op: 2}, {Name: "a", Op: 1, Value: "\xff"}, {Name: "a", Op: 3, Value: strings.Repeat("v", 129)}} {
		out = append(out, matcher.Query{To: api.MaxTime, Matches: []matcher.Match{m}})
	}
	nine := slices.Repeat([]matcher.Match{{Name: "none", Op: matcher.Is}}, 9)
	return append(out, matcher.Query{To: api.MaxTime, Matches: nine})
}

func TestP1303WrongQueries(t *testing.T) {
	w := few(t)
	w.must(entry(20, 0, "a=x", "\xff"), entry(21, 5, "a=x", "u"))
	for _, q := range wrongQueries() {
		if l := w.find(q); len(l) != 0 {
			t.Errorf("%+v: %s", q, told(l))
		}
	}
	// The like ones that may be.
	wantN(t, "eight matches", len(w.find(matcher.Query{To: api.MaxTime, Matches: wrongQueries()[21].Matches[:8]})), 9)
	wantN(t, "the greatest limit", len(w.find(matcher.Query{To: api.MaxTime, Limit: 10000})), 9)
	wantN(t, "the longest line", len(w.find(matcher.Query{To: api.MaxTime, Has: strings.Repeat("u", api.MaxLine)})), 0)
}

// TestP1303Empty: of nothing there is nothing.
func TestP1303Empty(t *testing.T) {
	w := twinOf(t, 100)
	for _, text := range []string{`{}`, `{} newest`, `{} limit 5`, `{a=""}`, `{a="x"}`, `{} has "u"`} {
		wantN(t, text, len(w.find(query(t, text))), 0)
	}
	for _, q := range wrongQueries() {
		wantN(t, "wrong", len(w.find(q)), 0)
	}
	for _, seq := range []int{math.MinInt, -1, 0, 1, math.MaxInt} {
		w.drop(seq)
		w.looks("empty")
	}
}

// TestP1303Limit: more entries than the greatest Limit.
func TestP1303Limit(t *testing.T) {
	w := twinOf(t, mostLimit)
	l := run(1, 10002)
	wantE(t, "Add", w.m.Add(l), api.OK)
	for _, limit := range []int{0, 1, 9999, 10000} {
		for _, newest := range []bool{false, true} {
			want := slices.Clone(l)
			if newest {
				slices.Reverse(want)
			}
			if limit > 0 {
				want = want[:limit]
			}
			wantTold(t, "Find", w.m.Find(matcher.Query{To: api.MaxTime, Limit: limit, Newest: newest}), want)
		}
	}
}

func TestP1303Bounds(t *testing.T) {
	w := twinOf(t, 4096)
	want := func(first, last int) {
		t.Helper()
		if a, b := w.m.Bounds(); a != first || b != last {
			t.Errorf("Bounds: %d %d, want %d %d", a, b, first, last)
		}
		w.looks("Bounds")
	}
	want(0, 0)
	w.must(entry(50, 1, "a=x", "u"))
	want(50, 50)
	w.must(entry(20, 9, "a=y", "u"))
	want(20, 50)
	w.must(entry(70, 0, "a=y", "u"), entry(30, 5, "a=x", "u"))
	want(20, 70)
	w.must(entry(api.MaxSeq-1, 0, "a=z", "u"), entry(1, 5, "a=z", "u"))
	want(1, api.MaxSeq-1)
	w.drop(20)
	want(30, api.MaxSeq-1)
	w.drop(api.MaxSeq - 2)
	want(api.MaxSeq-1, api.MaxSeq-1)
	w.drop(api.MaxSeq - 1)
	want(0, 0)
	w.must(entry(3, 1, "a=x", "u"))
	want(3, 3)
}

// TestP1303Drop: at each number there is, below and above it, twice in a row.
func TestP1303Drop(t *testing.T) {
	numbers := []int{math.MinInt, math.MinInt + 1, -1, 0, 1, 2, 3, 4, 5, 6, 7, 8, 9, 10, api.MaxSeq - 1, api.MaxSeq, math.MaxInt - 1, math.MaxInt}
	for _, first := range numbers {
		for _, second := range numbers {
			w := few(t)
			w.drop(first)
			w.looks("dropped")
			w.drop(first)
			w.looks("again")
			w.drop(second)
			w.looks("and more")
			w.drop(first)
			w.find(query(t, `{app="web"} newest`))
		}
	}
}

// TestP1303DropLast: of a stream's last entry the stream goes, and is found no more.
func TestP1303DropLast(t *testing.T) {
	w := twinOf(t, 4096).must(entry(1, 1, "a=x", "u"), entry(2, 1, "a=x", "u"), entry(3, 1, "a=y", "u"))
	w.drop(1)
	wantN(t, "Streams", w.m.Streams(), 2)
	w.drop(2)
	wantN(t, "Streams", w.m.Streams(), 1)
	for text, want := range map[string]string{`{a="x"}`: "", `{a!="x"}`: "3", `{a=~"*"}`: "3", `{a="y"}`: "3"} {
		if got := found(w, text); got != want {
			t.Errorf("%s: %s, want %s", text, got, want)
		}
	}
	w.must(entry(4, 1, "a=x", "v"))
	wantN(t, "Streams", w.m.Streams(), 2)
	if got := found(w, `{a="x"}`); got != "4" {
		t.Error(got)
	}
	w.drop(3)
	w.drop(4)
	w.looks("empty")
	wantN(t, "Streams", w.m.Streams(), 0)
}

// TestP1303Again: what was dropped may be added again, as it was or otherwise.
func TestP1303Again(t *testing.T) {
	w := few(t)
	l := slices.Clone(w.l)
	for seq := range 12 {
		w.drop(seq)
		w.must(entry(seq+1, seq, "a=x", "there already, but for what is not"))
		w.drop(seq + 1)
		w.must(l...)
		w.looks("again")
	}
	w.drop(20)
	for i := range l {
		l[i].Labels = of("c=z")
		l[i].Time = 100 - l[i].Time
	}
	w.must(l...)
	w.looks("otherwise")
	wantN(t, "Streams", w.m.Streams(), 1)
	if got := found(w, `{c="z"}`); got != "3 4 1 2 7 8 9" {
		t.Error(got)
	}
	if got := found(w, `{app="web"}`); got != "" {
		t.Error(got)
	}
}
