package segment_test

import (
	"cmp"
	"fmt"
	"slices"
	"strings"
	"testing"

	"icehouse/api"
	"icehouse/chunk"
	"icehouse/codec"
	"icehouse/matcher"
	"icehouse/memtable"
	"icehouse/planner"
	"icehouse/postings"
	"icehouse/segment"
)

// of: labels of words name=value.
func of(words string) []api.Label {
	var l []api.Label
	for _, word := range strings.Fields(words) {
		name, value, _ := strings.Cut(word, "=")
		l = append(l, api.Label{Name: name, Value: value})
	}
	return l
}

func entry(seq, time int, words, line string) api.Entry {
	return api.Entry{Seq: seq, Time: time, Labels: of(words), Line: line}
}

// run: entries of the numbers from first to last, in two streams, the later the greater.
func run(first, last int) []api.Entry {
	var l []api.Entry
	for seq := first; seq <= last; seq++ {
		l = append(l, entry(seq, seq*10, []string{"a=x", "a=y b=z"}[seq%2], "line"))
	}
	return l
}

// ownStreams: so many entries, each a stream of its own.
func ownStreams(n int) []api.Entry {
	var l []api.Entry
	for seq := 1; seq <= n; seq++ {
		l = append(l, entry(seq, seq, fmt.Sprintf("a=%d", seq), ""))
	}
	return l
}

// told: entries as a text.
func told(l []api.Entry) string {
	var out []string
	for _, x := range l {
		out = append(out, fmt.Sprintf("%d@%d%q%q", x.Seq, x.Time, x.Labels, x.Line))
	}
	return strings.Join(out, " ")
}

func wantE(t *testing.T, what string, got, want api.Errno) {
	t.Helper()
	if got != want {
		t.Errorf("%s: %d, want %d", what, got, want)
	}
}

func wantN(t *testing.T, what string, got, want int) {
	t.Helper()
	if got != want {
		t.Errorf("%s: %d, want %d", what, got, want)
	}
}

func wantTold(t *testing.T, what string, got, want []api.Entry) {
	t.Helper()
	if a, b := told(got), told(want); a != b {
		t.Errorf("%s: %.2000s, want %.2000s", what, a, b)
	}
}

// must: what is written, where it must be.
func must(b []byte, e api.Errno) string {
	if e != api.OK {
		panic(fmt.Sprintf("written: %d", e))
	}
	return string(b)
}

func number(n int) string { return must(codec.Number(n)) }

func text(s string) string { return must(codec.Text(s)) }

func frame(kind int, in string) string { return must(codec.Frame(kind, []byte(in))) }

// have: the chunks that have a label.
type have struct {
	label api.Label
	in    []int
}

// plan: what a segment's bytes are made of. A test spoils one thing of it, and
// all else is written for it anew, the sums too.
type plan struct {
	chunks []chunk.Chunk
	haves  []have
	// kinds of the frames: of chunks, of the index, of the end.
	kinds [3]int
	// more: added to how many labels, chunks and rows are told, and to the sum.
	more [4]int
}

func planOf(l []api.Entry) plan { return planOfChunks(chunk.Group(l)) }

func planOfChunks(chunks []chunk.Chunk) plan {
	p := plan{chunks: chunks, kinds: [3]int{2, 3, 4}}
	for n, c := range chunks {
		for _, x := range c.Labels {
			at := slices.IndexFunc(p.haves, func(h have) bool { return h.label == x })
			if at < 0 {
				at = len(p.haves)
				p.haves = append(p.haves, have{label: x})
			}
			p.haves[at].in = append(p.haves[at].in, n)
		}
	}
	slices.SortFunc(p.haves, func(x, y have) int {
		return cmp.Or(strings.Compare(x.label.Name, y.label.Name), strings.Compare(x.label.Value, y.label.Value))
	})
	return p
}

// frames: one of each chunk, that of the index, that of the end.
func (p plan) frames() []string {
	var out []string
	rows := 0
	for _, c := range p.chunks {
		out = append(out, frame(p.kinds[0], must(chunk.Put(c))))
		rows += len(c.Rows)
	}
	index := number(len(p.haves) + p.more[0])
	for _, h := range p.haves {
		index += text(h.label.Name) + text(h.label.Value) + text(must(postings.Put(h.in)))
	}
	out = append(out, frame(p.kinds[1], index))
	sum := int(codec.Sum([]byte(strings.Join(out, ""))))
	return append(out, frame(p.kinds[2], number(len(p.chunks)+p.more[1])+number(rows+p.more[2])+number(sum+p.more[3])))
}

func (p plan) bytes() []byte { return []byte(strings.Join(p.frames(), "")) }

// twin: a segment, and beside it a table of the same entries.
type twin struct {
	t *testing.T
	b []byte
	s *segment.Segment
	m *memtable.Table
}

// twinOf: of entries that must be encoded just as they are planned, and decoded.
func twinOf(t *testing.T, l ...api.Entry) *twin {
	t.Helper()
	b, e := segment.Encode(l)
	wantE(t, "Encode", e, api.OK)
	if want := planOf(l).bytes(); string(b) != string(want) {
		t.Fatalf("Encode of %.500s: %.2000q, want %.2000q", told(l), b, want)
	}
	s, e := segment.Decode(b)
	if s == nil || e != api.OK {
		t.Fatalf("Decode of Encode of %.500s: %d", told(l), e)
	}
	m, _ := memtable.New(1 << 30)
	wantE(t, "Add", m.Add(l), api.OK)
	return &twin{t, b, s, m}
}

// find: what there is of the query, which both must tell.
func (w *twin) find(q matcher.Query) []api.Entry {
	w.t.Helper()
	want := w.m.Find(q)
	wantTold(w.t, fmt.Sprintf("Find of %+v", q), w.s.Find(q), want)
	return want
}

// looks: whether the segment tells all as it is.
func (w *twin) looks(what string) {
	w.t.Helper()
	l := w.m.All()
	wantTold(w.t, what+": Entries", w.s.Entries(), l)
	wantN(w.t, what+": Rows", w.s.Rows(), len(l))
	rows := map[string]int{}
	chunks := 0
	for _, x := range l {
		if rows[fmt.Sprint(x.Labels)]%1000 == 0 {
			chunks++
		}
		rows[fmt.Sprint(x.Labels)]++
	}
	wantN(w.t, what+": Chunks", w.s.Chunks(), chunks)
	first, last := w.m.Bounds()
	want := planner.Meta{ID: 7, Least: l[0].Time, Most: l[len(l)-1].Time, First: first, Last: last, Rows: len(l), Bytes: len(w.b), Level: 3}
	if m, e := w.s.Meta(7, 3); m != want || e != api.OK {
		w.t.Errorf("%s: Meta: %v %d, want %v", what, m, e, want)
	}
}

// query: the one that the text says.
func query(t *testing.T, text string) matcher.Query {
	t.Helper()
	q, e := matcher.Parse(text)
	if e != api.OK {
		t.Fatalf("%s: %d", text, e)
	}
	return q
}

// few: a segment of some entries, at times that several share, as they come.
func few() []api.Entry {
	return []api.Entry{
		entry(4, 30, "app=web env=a", "get /"), entry(9, 10, "app=db", "slow"), entry(2, 20, "app=web env=b", "put /"),
		entry(7, 20, "app=web env=a", "get /x"), entry(1, 20, "app=db env=a", ""), entry(3, 40, "env=b", "get"), entry(8, 10, "app=web", "\xff get"),
	}
}
