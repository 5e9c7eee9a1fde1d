package segment_test

import (
	"math/rand/v2"
	"slices"
	"strings"
	"testing"

	"icehouse/api"
	"icehouse/matcher"
	"icehouse/record"
	"icehouse/segment"
)

// anyLabels: labels that may be, of few names and values.
func anyLabels(r *rand.Rand) []api.Label {
	l := []api.Label{{Name: "a", Value: []string{"x", "y", "xy", "*"}[r.IntN(4)]}}
	for _, name := range []string{"b", "c"} {
		if r.IntN(2) == 0 {
			l = append(l, api.Label{Name: name, Value: []string{"x", "y"}[r.IntN(2)]})
		}
	}
	return l[r.IntN(len(l)):]
}

// anyEntries: one or more that may be, of few numbers and times.
func anyEntries(r *rand.Rand) []api.Entry {
	var l []api.Entry
	for range 1 + r.IntN(60) {
		l = append(l, api.Entry{Seq: 1 + r.IntN(80), Time: r.IntN(20), Labels: anyLabels(r), Line: strings.Repeat([]string{"u", "v", "uv"}[r.IntN(3)], r.IntN(30))})
	}
	return l
}

// anyQuery: most of them may be.
func anyQuery(r *rand.Rand) matcher.Query {
	q := matcher.Query{From: r.IntN(12), To: api.MaxTime, Newest: r.IntN(2) == 0}
	if r.IntN(2) == 0 {
		q.To = 8 + r.IntN(14)
	}
	if r.IntN(2) == 0 {
		q.Limit = r.IntN(12)
	}
	q.Has = []string{"", "", "u", "v", "uv", "vu"}[r.IntN(6)]
	for range r.IntN(3) {
		m := matcher.Match{Name: []string{"a", "b", "c", "d"}[r.IntN(4)], Op: 1 + r.IntN(4), Value: []string{"", "x", "y", "x*", "?", "*", "|x", "x|y", "\\*"}[r.IntN(9)]}
		if r.IntN(60) == 0 {
			m.Op = 5
		}
		q.Matches = append(q.Matches, m)
	}
	return q
}

// firsts: of each Seq the first entry, in the order of entries.
func firsts(l []api.Entry) []api.Entry {
	var out []api.Entry
	for i, x := range l {
		if !slices.ContainsFunc(l[:i], func(y api.Entry) bool { return y.Seq == x.Seq }) {
			out = append(out, x)
		}
	}
	return record.Sort(out)
}

// P1405

// TestP1405ThereAndBack: the entries, each Seq once, in order, and each is found by its own labels.
func TestP1405ThereAndBack(t *testing.T) {
	r := rand.New(rand.NewPCG(14, 5))
	for range 1000 {
		in := anyEntries(r)
		b, e := segment.Encode(in)
		wantE(t, "Encode", e, api.OK)
		s, e := segment.Decode(b)
		if e != api.OK {
			t.Fatalf("Decode of Encode of %s: %d", told(in), e)
		}
		l := firsts(in)
		wantTold(t, "Entries", s.Entries(), l)
		for _, x := range l {
			own := matcher.Query{From: x.Time, To: x.Time + 1}
			for _, y := range x.Labels {
				own.Matches = append(own.Matches, matcher.Match{Name: y.Name, Op: matcher.Is, Value: y.Value})
			}
			same := func(y api.Entry) bool { return told([]api.Entry{x}) == told([]api.Entry{y}) }
			if !slices.ContainsFunc(s.Find(own), same) {
				t.Fatalf("%s is not found by %+v", told([]api.Entry{x}), own)
			}
		}
		again, e := segment.Encode(s.Entries())
		if string(again) != string(b) || e != api.OK {
			t.Fatalf("Encode of Entries: %q %d, want %q", again, e, b)
		}
		if t.Failed() {
			t.FailNow()
		}
	}
}

// TestP1405Large: of many entries, in long streams and in many.
func TestP1405Large(t *testing.T) {
	r := rand.New(rand.NewPCG(14, 6))
	for range 3 {
		var l []api.Entry
		for range 8000 {
			x := api.Entry{Seq: 1 + r.IntN(1<<30), Time: r.IntN(1 << 20), Labels: anyLabels(r), Line: strings.Repeat("u", r.IntN(80))}
			if r.IntN(4) == 0 {
				x.Seq = 1 + r.IntN(100)
			}
			l = append(l, x)
		}
		w := twinOf(t, l...)
		w.looks("large")
		wantTold(t, "Entries", w.s.Entries(), firsts(l))
		for range 20 {
			w.find(anyQuery(r))
		}
	}
}

// TestP1405Bytes: of any bytes Decode tells an error, or what is written as the same bytes.
func TestP1405Bytes(t *testing.T) {
	r := rand.New(rand.NewPCG(14, 7))
	right := 0
	for range 3000 {
		frames := planOf(anyEntries(r)).frames()
		switch r.IntN(5) {
		case 0: // any bytes
			frames = []string{string([]byte{0xa5, byte(r.IntN(5)), byte(r.IntN(9)), byte(r.Int()), byte(r.Int())})}
		case 1: // frames of two segments
			frames = append(frames, planOf(anyEntries(r)).frames()...)
			r.Shuffle(len(frames), func(i, j int) { frames[i], frames[j] = frames[j], frames[i] })
		case 2: // chunks, with an end that tells their sum
			frames = slices.Delete(frames, 0, r.IntN(len(frames)-1))
			frames = []string{string(ended(frames[:len(frames)-1], len(frames)-2, r.IntN(30)))}
		}
		b := []byte(strings.Join(frames, ""))
		s, e := segment.Decode(b)
		if e != api.OK {
			wantNone(t, "any bytes", b)
			continue
		}
		right++
		if again, e := segment.Encode(s.Entries()); string(again) != string(b) || e != api.OK {
			t.Fatalf("%q is written as %q %d", b, again, e)
		}
	}
	if right < 100 || right > 2900 {
		t.Error("of 3000 there were right: ", right)
	}
}
