package segment_test

import (
	"fmt"
	"math"
	"math/rand/v2"
	"runtime"
	"slices"
	"strings"
	"testing"

	"icehouse/api"
	"icehouse/matcher"
	"icehouse/planner"
	"icehouse/record"
	"icehouse/segment"
	"icehouse/simdisk"
)

// P1401

func TestP1401NobodyMade(t *testing.T) {
	refused, _ := segment.Decode(nil)
	for i, s := range []*segment.Segment{nil, {}, new(segment.Segment), refused} {
		for range 2 { // it stays so, whatever was called
			wantN(t, "Rows", s.Rows(), 0)
			wantN(t, "Chunks", s.Chunks(), 0)
			wantN(t, "Entries", len(s.Entries()), 0)
			for _, id := range []int{math.MinInt, -1, 0, 1, 5, mostID, mostID + 1, math.MaxInt} {
				for _, level := range []int{math.MinInt, -1, 0, 20, 21} {
					if m, e := s.Meta(id, level); m != (planner.Meta{}) || e != api.ErrArg {
						t.Errorf("%d: Meta(%d, %d): %v %d", i, id, level, m, e)
					}
				}
			}
			for _, q := range append(wrongQueries(), matcher.Query{To: api.MaxTime}, matcher.Query{To: 9, Newest: true, Limit: 3}, query(t, `{a="x"}`), query(t, `{a=""}`), query(t, `{a=~"*"}`)) {
				wantN(t, "Find", len(s.Find(q)), 0)
			}
		}
	}
}

// TestP1401AnyArguments: whatever is called ends, and answers as the document says.
func TestP1401AnyArguments(t *testing.T) {
	r := rand.New(rand.NewPCG(14, 8))
	numbers := []int{math.MinInt, math.MinInt + 1, -1, 0, 1, 2, 3, 20, 21, 1 << 20, api.MaxSeq - 1, api.MaxSeq, math.MaxInt - 1, math.MaxInt}
	number := func() int { return numbers[r.IntN(len(numbers))] }
	words := []string{"", "a=x", "a=x b=y", "b=y a=x", "a=\xff", "a=", "a=x a=x"}
	text := func() string {
		return []string{"", "u", "\xff", "*", strings.Repeat("u", 1024), strings.Repeat("u", 1<<17)}[r.IntN(6)]
	}
	w := twinOf(t, append(few(), run(100, 130)...)...)
	p := pairOf(t, 2000)
	for range 3000 {
		var l []api.Entry
		for range r.IntN(3) {
			l = append(l, entry(number(), number(), words[r.IntN(len(words))], text()))
		}
		wrong := func(x api.Entry) bool { return !record.Right(x) }
		if len(l) > 0 && !slices.ContainsFunc(l, wrong) {
			twinOf(t, l...).looks("any")
		} else {
			wantNoBytes(t, "any", l, api.ErrArg)
		}
		wantNone(t, "any", []byte(text()))
		w.find(matcher.Query{From: number(), To: number(), Limit: number(), Newest: r.IntN(2) == 0, Has: text()})
		w.find(matcher.Query{To: api.MaxTime, Matches: []matcher.Match{{Name: "app", Op: number(), Value: text()}}})
		w.find(matcher.Query{To: api.MaxTime, Matches: []matcher.Match{{Name: text(), Op: 1 + r.IntN(4), Value: text()}}})
		id, level := number(), number()
		_, e := w.s.Meta(id, level)
		wantE(t, "Meta", e, map[bool]api.Errno{true: api.OK, false: api.ErrArg}[id >= 1 && id <= mostID && level >= 0 && level <= 20])
		if id < 1 || id > mostID {
			wantE(t, "Write", segment.Write(p.d, id, []byte(text())), api.ErrArg)
			wantE(t, "Remove", segment.Remove(p.d, id), api.ErrArg)
			wantRead(t, "any", p.d, id, "", api.ErrArg)
			continue
		}
		p.write(id, text())
		if r.IntN(2) == 0 {
			p.remove(id)
		}
	}
	w.looks("looked at")
}

// TestP1401SameAgain: the same of the same, though a map goes round otherwise each time.
func TestP1401SameAgain(t *testing.T) {
	r := rand.New(rand.NewPCG(14, 9))
	for range 300 {
		l := anyEntries(r)
		b, e := segment.Encode(l)
		s, _ := segment.Decode(b)
		q := anyQuery(r)
		for range 3 {
			again, f := segment.Encode(l)
			if string(again) != string(b) || e != f {
				t.Fatalf("Encode of %s: %q %d, then %q %d", told(l), b, e, again, f)
			}
			other, f := segment.Decode(b)
			if f != api.OK || told(other.Entries()) != told(s.Entries()) || told(other.Find(q)) != told(s.Find(q)) {
				t.Fatalf("Decode of %q was otherwise", b)
			}
		}
		id := r.IntN(mostID)
		if segment.Name(id) != segment.Name(id) {
			t.Fatal(id)
		}
	}
}

// roomy: entries with room behind each list, and something in it.
func roomy(l []api.Entry) []api.Entry {
	var out []api.Entry
	for _, x := range append(slices.Clone(l), entry(77, 1, "mark=mark", "mark")) {
		x.Labels = append(slices.Clone(x.Labels), api.Label{Name: "mark", Value: "mark"})[:len(x.Labels)]
		out = append(out, x)
	}
	return out[:len(l)]
}

// whole: all that lies in the entries' memory, the room behind them too.
func whole(l []api.Entry) string {
	l = slices.Clone(l[:len(l)+1])
	for i := range l {
		l[i].Labels = l[i].Labels[:len(l[i].Labels)+1]
	}
	return told(l)
}

// spoil: all that can be reached from the entries is overwritten, the room behind the lists too.
func spoil(l []api.Entry) {
	for _, x := range l[:cap(l)] {
		for i := range x.Labels[:cap(x.Labels)] {
			x.Labels[:cap(x.Labels)][i] = api.Label{Name: "spoilt", Value: "spoilt"}
		}
	}
	for i := range l[:cap(l)] {
		l[:cap(l)][i] = entry(99, 99, "spoilt=x", "spoilt")
	}
}

// spoilBytes: likewise of bytes.
func spoilBytes(b []byte) {
	for i := range b[:cap(b)] {
		b[:cap(b)][i] = 0xee
	}
}

// TestP1401NothingIsChanged: what is handed in, and the room behind it, stays as it was.
func TestP1401NothingIsChanged(t *testing.T) {
	for _, l := range [][]api.Entry{{}, run(1, 9), few(), append(few(), few()...), append(run(1, 3), api.Entry{Seq: -1}), {{}}, ownStreams(70000)} {
		in := roomy(l)
		before := whole(in)
		segment.Encode(in)
		segment.Encode(in)
		if whole(in) != before {
			t.Errorf("changed: %.2000s", whole(in))
		}
	}
	right := twinOf(t, few()...).b
	for _, text := range []string{"", string(right), string(right[:len(right)-1]), string(right) + "\x00", "some"} {
		roomy := append([]byte(text), "behind"...)
		b := roomy[:len(text)]
		segment.Decode(b)
		segment.Decode(b)
		d := disk(t, 100000)
		segment.Write(d, 1, b)
		segment.Write(d, 1, b)
		if string(roomy) != text+"behind" {
			t.Errorf("changed: %q", roomy)
		}
	}
	w := twinOf(t, few()...)
	matches := []matcher.Match{{Name: "app", Op: matcher.Is, Value: "web"}, {Name: "mark", Op: 77}}
	w.find(matcher.Query{Matches: matches[:1], To: api.MaxTime})
	w.find(matcher.Query{Matches: matches[:1], To: api.MaxTime, Newest: true, Limit: 1})
	if matches[0] != (matcher.Match{Name: "app", Op: matcher.Is, Value: "web"}) || matches[1] != (matcher.Match{Name: "mark", Op: 77}) {
		t.Error("a query was changed")
	}
}

// TestP1401NothingIsKept: what was handed in may be changed then.
func TestP1401NothingIsKept(t *testing.T) {
	in := roomy(few())
	b, e := segment.Encode(in)
	wantE(t, "Encode", e, api.OK)
	spoil(in)
	w := twinOf(t, few()...)
	if string(b) != string(w.b) {
		t.Errorf("changed with its entries: %q", b)
	}
	s, e := segment.Decode(b)
	wantE(t, "Decode", e, api.OK)
	d := disk(t, 10000)
	wantE(t, "Write", segment.Write(d, 1, b), api.OK)
	spoilBytes(b)
	w.s = s
	w.looks("spoilt")
	for _, text := range []string{`{}`, `{app="web"}`, `{env!="a"} newest`, `{spoilt!=""}`} {
		w.find(query(t, text))
	}
	wantRead(t, "spoilt", d, 1, string(w.b), api.OK)
}

// TestP1401AnswersAreNew: what was answered may be changed: the segment stays, and so do other answers.
func TestP1401AnswersAreNew(t *testing.T) {
	l := append(few(), run(100, 120)...)
	w := twinOf(t, l...)
	for _, text := range []string{`{}`, `{} newest`, `{app="web"}`, `{env="a"} limit 2`, `{env="a"} limit 3 newest`, `{} from 20 to 21`, `{a="x"}`} {
		q := query(t, text)
		stays := w.s.Find(q)
		want := told(stays)
		for range 3 {
			l := w.s.Find(q)
			for i := range l {
				behind := told(l[i+1:])
				clear(l[i].Labels[:cap(l[i].Labels)])
				if told(l[i+1:]) != behind {
					t.Errorf("%s: two lists of an answer share something", text)
				}
			}
			spoil(l)
			w.looks(text)
		}
		if told(stays) != want {
			t.Errorf("%s: an answer was changed by those behind it", text)
		}
	}
	spoil(w.s.Entries())
	w.looks("Entries")
	first, _ := segment.Encode(l)
	second, _ := segment.Encode(l)
	s, e := segment.Decode(second)
	wantE(t, "Decode", e, api.OK)
	spoilBytes(second)
	if string(first) != string(w.b) || told(s.Entries()) != told(w.s.Entries()) {
		t.Error("an answer was changed with another one")
	}
	d := disk(t, 10000)
	wantE(t, "Write", segment.Write(d, 1, first), api.OK)
	wantE(t, "Write", segment.Write(d, 2, first), api.OK)
	b, _ := segment.Read(d, 1)
	ids, _ := segment.Ids(d)
	spoilBytes(b)
	clear(ids[:cap(ids)])
	wantRead(t, "read again", d, 1, string(first), api.OK)
	wantIds(t, "told again", d, api.OK, 1, 2)
}

// TestP1401Apart: a segment is what was decoded, whatever is decoded then, and a copy of it is the same.
func TestP1401Apart(t *testing.T) {
	one, two := twinOf(t, few()...), twinOf(t, run(1, 20)...)
	one.looks("one")
	two.looks("two")
	copied := *one.s
	one.s = &copied
	one.looks("a copy")
	one.find(query(t, `{app="web"} newest`))
}

// heap: how many bytes are kept.
func heap() int {
	runtime.GC()
	var m runtime.MemStats
	runtime.ReadMemStats(&m)
	return int(m.HeapAlloc)
}

// TestP1401KeepsNoMore: a segment keeps its entries, not what it was read from; the calls keep nothing.
func TestP1401KeepsNoMore(t *testing.T) {
	l := []api.Entry{entry(1, 1, "a=x", "")}
	for seq := 2; seq <= 1000; seq++ {
		l = append(l, entry(seq, seq, "a=x", strings.Repeat("u", 1000)))
	}
	b, e := segment.Encode(l)
	wantE(t, "Encode", e, api.OK)
	ahead := heap()
	var kept []*segment.Segment
	for range 10 {
		s, e := segment.Decode(b)
		wantE(t, "Decode", e, api.OK)
		kept = append(kept, s)
	}
	if more := heap() - ahead; more > 14*len(b) {
		t.Errorf("%d bytes are kept for ten segments of %d bytes", more, len(b))
	}
	kept = nil
	for i := range 50 {
		s, _ := segment.Decode(b)
		s.Find(query(t, fmt.Sprintf(`{a="x"} from %d`, i)))
		segment.Encode(l)
		segment.Decode(b[:len(b)-i-1])
	}
	d, _ := simdisk.New(api.MaxBytes)
	for range 50 {
		wantE(t, "Write", segment.Write(d, 1, b[:len(b)/2]), api.OK)
		wantE(t, "Remove", segment.Remove(d, 1), api.OK)
	}
	if more := heap() - ahead; more > 1<<20 {
		t.Errorf("%d bytes more are kept", more)
	}
	runtime.KeepAlive(kept)
	runtime.KeepAlive(l)
}
