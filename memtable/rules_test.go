package memtable_test

import (
	"fmt"
	"math"
	"math/rand/v2"
	"runtime"
	"slices"
	"strings"
	"testing"

	"icehouse/api"
	"icehouse/matcher"
	"icehouse/memtable"
)

// P1301

func TestP1301NobodyMade(t *testing.T) {
	refused, _ := memtable.New(0)
	for i, m := range []*memtable.Table{nil, {}, new(memtable.Table), refused} {
		for range 2 { // it stays so, whatever was called
			for _, l := range [][]api.Entry{nil, {}, run(1, 1), run(1, 100), {{}}} {
				if m.Room(l) {
					t.Error(i, "Room: true")
				}
				wantE(t, "Add", m.Add(l), api.ErrArg)
			}
			for _, seq := range []int{math.MinInt, -1, 0, 1, 2, math.MaxInt} {
				if m.Has(seq) {
					t.Errorf("Has(%d): true", seq)
				}
				wantN(t, "Drop", m.Drop(seq), 0)
			}
			for _, q := range append(wrongQueries(), all(), matcher.Query{To: 9, Newest: true, Limit: 3}, query(t, `{a="x"}`)) {
				wantN(t, "Find", len(m.Find(q)), 0)
			}
			wantLooks(t, "nobody made it", m, nil)
		}
	}
}

// TestP1301AnyArguments: whatever is called ends, and answers as the document says.
func TestP1301AnyArguments(t *testing.T) {
	r := rand.New(rand.NewPCG(13, 2))
	numbers := []int{math.MinInt, math.MinInt + 1, -1, 0, 1, 2, 3, 1 << 20, api.MaxSeq - 1, api.MaxSeq, math.MaxInt - 1, math.MaxInt}
	number := func() int { return numbers[r.IntN(len(numbers))] }
	words := []string{"", "a=x", "a=x b=y", "b=y a=x", "a=\xff", "a=", "a=x a=x"}
	text := func() string {
		return []string{"", "u", "\xff", "*", strings.Repeat("u", 1024), strings.Repeat("u", 1<<17)}[r.IntN(6)]
	}
	for range 100 {
		w := twinOf(t, 1+r.IntN(3000))
		for range 30 {
			var l []api.Entry
			for range r.IntN(4) {
				x := entry(number(), number(), words[r.IntN(len(words))], text())
				if r.IntN(2) == 0 {
					x = entry(max(1, min(x.Seq, api.MaxSeq-1)), max(0, min(x.Time, api.MaxTime-1)), "a=x", "u")
				}
				l = append(l, x)
			}
			w.add(l)
			w.find(matcher.Query{From: number(), To: number(), Limit: number(), Newest: r.IntN(2) == 0, Has: text()})
			w.find(matcher.Query{To: api.MaxTime, Matches: []matcher.Match{{Name: "a", Op: number(), Value: text()}}})
			w.find(matcher.Query{To: api.MaxTime, Matches: []matcher.Match{{Name: text(), Op: 1 + r.IntN(4), Value: text()}}})
			w.looks("any")
			if r.IntN(3) == 0 {
				w.drop(number())
			}
		}
	}
}

// TestP1301Copy: a copy of a table is the same one, so that no call of either can tear it.
func TestP1301Copy(t *testing.T) {
	w := twinOf(t, 4096)
	copied := *w.m
	other := &copied
	w.must(run(1, 5)...)
	wantLooks(t, "the other one", other, w.l)
	wantE(t, "Add", other.Add(run(6, 6)), api.OK)
	w.l = run(1, 6)
	w.looks("the first one")
	wantN(t, "Drop", other.Drop(6), 6)
	w.l = nil
	w.looks("the first one")
	w.must(run(3, 4)...)
	wantLooks(t, "the other one", other, w.l)
}

// mark: what lies behind a list in its room; no call may reach it.
func mark() api.Label { return api.Label{Name: "mark", Value: "mark"} }

// roomy: entries with room behind each list, and something in it.
func roomy(l []api.Entry) []api.Entry {
	var out []api.Entry
	for _, x := range append(slices.Clone(l), entry(77, 1, "mark=mark", "mark")) {
		x.Labels = append(slices.Clone(x.Labels), mark())[:len(x.Labels)]
		out = append(out, x)
	}
	return out[:len(l)]
}

// whole: all that lies in the entries' memory, the room behind them too.
func whole(l []api.Entry) string {
	l = slices.Clone(l[:len(l)+1])
	for i := range l {
		l[i].Labels = l[i].Labels[:len(l[i].Labels)+1]
	}
	return told(l)
}

// spoil: all that can be reached from the entries is overwritten, the room behind the lists too.
func spoil(l []api.Entry) {
	for _, x := range l[:cap(l)] {
		for i := range x.Labels[:cap(x.Labels)] {
			x.Labels[:cap(x.Labels)][i] = api.Label{Name: "spoilt", Value: "spoilt"}
		}
	}
	for i := range l[:cap(l)] {
		l[:cap(l)][i] = entry(99, 99, "spoilt=x", "spoilt")
	}
}

// TestP1301NothingIsChanged: what Room, Add and Find are handed, and the room behind it, stays as it was.
func TestP1301NothingIsChanged(t *testing.T) {
	for _, limit := range []int{1, 100, 4096} {
		for _, l := range [][]api.Entry{{}, run(1, 9), {sized(4, 50), sized(4, 20), sized(2, 9), {Seq: 2}, sized(1, 9)}, few(t).l, append(run(3, 5), run(1, 9)...)} {
			w := twinOf(t, limit)
			in := roomy(l)
			before := whole(in)
			for range 2 {
				w.m.Room(in)
				w.m.Add(in)
				w.m.Room(in)
				w.m.All()
				w.m.Drop(4)
			}
			if whole(in) != before {
				t.Errorf("changed: %s", whole(in))
			}
		}
	}
	w := few(t)
	matches := append([]matcher.Match{{Name: "app", Op: matcher.Is, Value: "web"}}, matcher.Match{Name: "mark", Op: 77})
	w.find(matcher.Query{Matches: matches[:1], To: api.MaxTime})
	if matches[0].Name != "app" || matches[1].Name != "mark" || matches[1].Op != 77 {
		t.Error("a query was changed")
	}
}

// TestP1301NothingIsKept: what was handed in may be changed then.
func TestP1301NothingIsKept(t *testing.T) {
	want := few(t).l
	w := twinOf(t, 4096)
	for _, x := range want {
		in := roomy([]api.Entry{x})
		w.must(in...)
		spoil(in)
		w.looks("spoilt")
	}
	wantTold(t, "All", w.m.All(), want)
	w = twinOf(t, 4096)
	in := roomy(want)
	w.must(in...)
	spoil(in)
	w.looks("spoilt at once")
	found(w, `{app="web", env="a"}`)
	found(w, `{spoilt!=""}`)
	w.drop(5)
	w.must(want...)
	w.looks("spoilt, dropped")
	wantTold(t, "All", w.m.All(), want)
	// What was refused is not kept either.
	w = twinOf(t, 50)
	in = roomy(run(1, 9))
	wantE(t, "Add", w.add(in), api.ErrBusy)
	spoil(in)
	w.looks("refused")
}

// TestP1301AnswersAreNew: what All and Find answered may be changed: the table stays, and so do other answers.
func TestP1301AnswersAreNew(t *testing.T) {
	w := few(t)
	labels := of("app=web env=a") // one list for several entries
	w.must(api.Entry{Seq: 10, Time: 1, Labels: labels}, api.Entry{Seq: 11, Time: 1, Labels: labels}, api.Entry{Seq: 12, Time: 2, Labels: labels})
	for _, text := range []string{`{}`, `{} newest`, `{app="web"}`, `{env="a"} limit 2`, `{env="a"} newest limit 3`, `{} from 20 to 21`} {
		text = strings.Replace(text, "newest limit 3", "limit 3 newest", 1)
		q := query(t, text)
		stays := w.m.Find(q)
		want := told(stays)
		for range 3 {
			l := w.m.Find(q)
			for i := range l {
				behind := told(l[i+1:])
				clear(l[i].Labels[:cap(l[i].Labels)])
				if told(l[i+1:]) != behind {
					t.Errorf("%s: two lists of an answer share something", text)
				}
			}
			spoil(l)
			w.looks(text)
		}
		if told(stays) != want {
			t.Errorf("%s: an answer was changed by those behind it", text)
		}
	}
	spoil(w.m.All())
	w.looks("All")
	w.must(entry(30, 1, "app=web env=a", "new"))
	w.drop(4)
	w.looks("dropped")
}

// TestP1301TablesAreApart: what is asked of one changes nothing in another one.
func TestP1301TablesAreApart(t *testing.T) {
	one, two := few(t), few(t)
	one.must(entry(50, 1, "a=x", "u"))
	two.looks("two")
	two.drop(4)
	one.looks("one")
	two.must(entry(51, 1, "b=x", "u"))
	one.drop(60)
	two.looks("two")
	one.looks("one")
}

// TestP1301TheSameAgain: the same calls are answered the same, though a map goes round otherwise each time.
func TestP1301TheSameAgain(t *testing.T) {
	r := rand.New(rand.NewPCG(13, 3))
	for range 100 {
		seed := r.Uint64()
		tell := func() string {
			r, out := rand.New(rand.NewPCG(seed, 1)), []string{}
			m, _ := memtable.New(1 + r.IntN(2000))
			for range 30 {
				l := anyEntries(r)
				q := anyQuery(r)
				out = append(out, fmt.Sprint(m.Room(l), m.Add(l), m.Drop(r.IntN(9)), m.Bytes(), m.Rows(), m.Streams()), told(m.All()), told(m.Find(q)), told(m.Find(q)))
				first, last := m.Bounds()
				out = append(out, fmt.Sprint(first, last))
			}
			return strings.Join(out, " / ")
		}
		if tell() != tell() {
			t.Fatal("the same calls were answered otherwise")
		}
	}
}

// heap: how many bytes are kept.
func heap() int {
	runtime.GC()
	var m runtime.MemStats
	runtime.ReadMemStats(&m)
	return int(m.HeapAlloc)
}

// wantKept: no more than a little more is kept than was ahead.
func wantKept(t *testing.T, what string, ahead int) {
	t.Helper()
	if more := heap() - ahead; more > 1<<20 {
		t.Errorf("%s: %d bytes more are kept", what, more)
	}
}

// ownStreams: so many entries from that number on, each a stream of its own.
func ownStreams(first, n int) []api.Entry {
	var l []api.Entry
	for seq := first; seq < first+n; seq++ {
		l = append(l, entry(seq, seq, fmt.Sprintf("a=%d", seq), "line"))
	}
	return l
}

// TestP1301KeepsNoMore: what was dropped is not kept, nor a long text that a line is a piece of.
func TestP1301KeepsNoMore(t *testing.T) {
	w := twinOf(t, mostLimit)
	ahead := heap()
	// One entry is there all the time.
	for seq := 1; seq <= 20000; seq++ {
		wantE(t, "Add", w.m.Add(ownStreams(seq, 1)), api.OK)
		w.m.Drop(seq - 1)
	}
	wantKept(t, "streams that went", ahead)
	for i := range 100 {
		long := strings.Repeat("u", 1<<20)
		x := api.Entry{Seq: 30000 + i, Time: 1, Labels: []api.Label{{Name: long[1:2], Value: long[i : i+1+i]}}, Line: long[i : i+9]}
		wantE(t, "Add", w.m.Add([]api.Entry{x}), api.OK)
	}
	wantKept(t, "texts that are longer", ahead)
	wantE(t, "Add", w.m.Add(ownStreams(50000, 50000)), api.OK)
	w.m.Drop(math.MaxInt)
	wantKept(t, "all that went", ahead)
	w.looks("empty")
	// Streams that come and go while an index can take no more of them.
	wantE(t, "Add", w.m.Add(ownStreams(50000, api.MaxList+1)), api.OK)
	ahead = heap()
	for seq := 1; seq <= 20000; seq++ {
		wantE(t, "Add", w.m.Add(ownStreams(seq, 1)), api.OK)
		wantN(t, "Drop", w.m.Drop(seq), 1)
	}
	wantKept(t, "streams without an index that went", ahead)
	runtime.KeepAlive(w)
}
