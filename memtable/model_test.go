package memtable_test

import (
	"cmp"
	"fmt"
	"slices"
	"strings"
	"testing"

	"icehouse/api"
	"icehouse/matcher"
	"icehouse/memtable"
	"icehouse/record"
)

// of: labels from words like a=x.
func of(words string) []api.Label {
	var l []api.Label
	for _, word := range strings.Fields(words) {
		name, value, _ := strings.Cut(word, "=")
		l = append(l, api.Label{Name: name, Value: value})
	}
	return l
}

func entry(seq, time int, words, line string) api.Entry {
	return api.Entry{Seq: seq, Time: time, Labels: of(words), Line: line}
}

// run: entries of the numbers from first to last, in two streams, the later the greater.
func run(first, last int) []api.Entry {
	var l []api.Entry
	for seq := first; seq <= last; seq++ {
		l = append(l, entry(seq, seq*10, []string{"a=x", "a=y b=z"}[seq%2], "line"))
	}
	return l
}

// sized: an entry of just so many bytes: at least 9 of them, and at most 100.
func sized(seq, bytes int) api.Entry {
	return entry(seq, 1, "a=x", strings.Repeat("u", bytes-9))
}

// told: entries as a text.
func told(l []api.Entry) string {
	var out []string
	for _, x := range l {
		out = append(out, fmt.Sprintf("%d@%d%q%q", x.Seq, x.Time, x.Labels, x.Line))
	}
	return strings.Join(out, " ")
}

func wantE(t *testing.T, what string, got, want api.Errno) {
	t.Helper()
	if got != want {
		t.Errorf("%s: %d, want %d", what, got, want)
	}
}

func wantN(t *testing.T, what string, got, want int) {
	t.Helper()
	if got != want {
		t.Errorf("%s: %d, want %d", what, got, want)
	}
}

func wantTold(t *testing.T, what string, got, want []api.Entry) {
	t.Helper()
	if a, b := told(got), told(want); a != b {
		t.Errorf("%s: %.2000s, want %.2000s", what, a, b)
	}
}

// all: the query that asks for everything.
func all() matcher.Query { return matcher.Query{To: api.MaxTime} }

// query: the one that the text says.
func query(t *testing.T, text string) matcher.Query {
	t.Helper()
	q, e := matcher.Parse(text)
	if e != api.OK {
		t.Fatalf("%s: %d", text, e)
	}
	return q
}

// wantLooks: what a table tells of itself, of entries that are in order.
func wantLooks(t *testing.T, what string, m *memtable.Table, l []api.Entry) {
	t.Helper()
	var streams []string
	bytes, first, last := 0, 0, 0
	for i, x := range l {
		bytes += record.Size(x)
		streams = append(streams, fmt.Sprint(x.Labels))
		if i == 0 || x.Seq < first {
			first = x.Seq
		}
		last = max(last, x.Seq)
		if !m.Has(x.Seq) {
			t.Errorf("%s: Has(%d): false", what, x.Seq)
		}
	}
	slices.Sort(streams)
	wantN(t, what+": Bytes", m.Bytes(), bytes)
	wantN(t, what+": Rows", m.Rows(), len(l))
	wantN(t, what+": Streams", m.Streams(), len(slices.Compact(streams)))
	if a, b := m.Bounds(); a != first || b != last {
		t.Errorf("%s: Bounds: %d %d, want %d %d", what, a, b, first, last)
	}
	wantTold(t, what+": All", m.All(), l)
	wantTold(t, what+": Find of all", m.Find(all()), l)
}

// twin: a table, and beside it all its entries, in order, which are gone
// through anew for each call.
type twin struct {
	t     *testing.T
	m     *memtable.Table
	limit int
	l     []api.Entry
}

func twinOf(t *testing.T, limit int) *twin {
	t.Helper()
	m, e := memtable.New(limit)
	if m == nil || e != api.OK {
		t.Fatalf("New(%d): %d", limit, e)
	}
	return &twin{t: t, m: m, limit: limit}
}

func (w *twin) bytes() int {
	n := 0
	for _, x := range w.l {
		n += record.Size(x)
	}
	return n
}

func (w *twin) has(seq int) bool {
	return slices.ContainsFunc(w.l, func(x api.Entry) bool { return x.Seq == seq })
}

// fresh: those of the entries that would be there behind an Add.
func (w *twin) fresh(l []api.Entry) []api.Entry {
	var out []api.Entry
	for _, x := range l {
		same := func(y api.Entry) bool { return y.Seq == x.Seq }
		if record.Right(x) && !w.has(x.Seq) && !slices.ContainsFunc(out, same) {
			out = append(out, x)
		}
	}
	return out
}

// room: asks whether there is, which must be so as the document says.
func (w *twin) room(l []api.Entry) bool {
	w.t.Helper()
	n := w.bytes()
	for _, x := range w.fresh(l) {
		n += record.Size(x)
	}
	if w.m.Room(l) != (n <= w.limit) {
		w.t.Errorf("Room of %.500s: %v, but %d bytes of %d", told(l), n > w.limit, n, w.limit)
	}
	return n <= w.limit
}

// add: to both; the answer must be as the document says.
func (w *twin) add(l []api.Entry) api.Errno {
	w.t.Helper()
	want := api.OK
	if !w.room(l) {
		want = api.ErrBusy
	}
	if slices.ContainsFunc(l, func(x api.Entry) bool { return !record.Right(x) }) {
		want = api.ErrArg
	}
	wantE(w.t, "Add", w.m.Add(l), want)
	if want == api.OK {
		for _, x := range w.fresh(l) {
			x.Labels = slices.Clone(x.Labels)
			w.l = append(w.l, x)
		}
		slices.SortFunc(w.l, func(x, y api.Entry) int {
			return cmp.Or(cmp.Compare(x.Time, y.Time), cmp.Compare(x.Seq, y.Seq))
		})
	}
	return want
}

// must: an Add that is OK.
func (w *twin) must(l ...api.Entry) *twin {
	w.t.Helper()
	wantE(w.t, "Add", w.add(l), api.OK)
	return w
}

// drop: from both.
func (w *twin) drop(seq int) {
	w.t.Helper()
	ahead := len(w.l)
	w.l = slices.DeleteFunc(w.l, func(x api.Entry) bool { return x.Seq <= seq })
	wantN(w.t, fmt.Sprintf("Drop(%d)", seq), w.m.Drop(seq), ahead-len(w.l))
}

// find: what there is of the query, which the table must tell.
func (w *twin) find(q matcher.Query) []api.Entry {
	w.t.Helper()
	var want []api.Entry
	for _, x := range w.l {
		if matcher.Takes(q, x) {
			want = append(want, x)
		}
	}
	if q.Newest {
		slices.Reverse(want)
	}
	if q.Limit > 0 {
		want = want[:min(len(want), q.Limit)]
	}
	wantTold(w.t, fmt.Sprintf("Find of %+v", q), w.m.Find(q), want)
	return want
}

// looks: whether the table tells all as it is.
func (w *twin) looks(what string) {
	w.t.Helper()
	wantLooks(w.t, what, w.m, w.l)
	if w.m.Bytes() > w.limit {
		w.t.Errorf("%s: %d bytes are there, the limit being %d", what, w.m.Bytes(), w.limit)
	}
}
