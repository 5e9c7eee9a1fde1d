package segment_test

import (
	"bytes"
	"math"
	"math/rand/v2"
	"slices"
	"strings"
	"testing"

	"icehouse/api"
	"icehouse/chunk"
	"icehouse/codec"
	"icehouse/segment"
)

// TestExample: of the chapter.
func TestExample(t *testing.T) {
	b, e := segment.Encode([]api.Entry{entry(1, 5, "a=x", "u")})
	wantE(t, "Encode", e, api.OK)
	n := 0
	for rest := b; len(rest) > 0; n++ {
		_, _, size, e := codec.Unframe(rest)
		wantE(t, "Unframe", e, api.OK)
		rest = rest[size:]
	}
	wantN(t, "frames", n, 3)
	s, e := segment.Decode(b)
	wantE(t, "Decode", e, api.OK)
	wantN(t, "Rows", s.Rows(), 1)
	wantN(t, "Chunks", s.Chunks(), 1)
}

// wrongEntries: such as may not be.
func wrongEntries() []api.Entry {
	var out []api.Entry
	for _, n := range []int{math.MinInt, -1, 0, api.MaxSeq, api.MaxSeq + 1, math.MaxInt} {
		out = append(out, entry(n, 1, "a=x", "u"))
	}
	for _, n := range []int{math.MinInt, -1, api.MaxTime, api.MaxTime + 1, math.MaxInt} {
		out = append(out, entry(1, n, "a=x", "u"))
	}
	many := ""
	for i := range api.MaxLabels + 1 {
		many += " " + string(rune('a'+i)) + "=x"
	}
	for _, words := range []string{"", "a=", "=x", "0=x", "b=x a=x", "a=x a=y", "a=\xff", many, strings.Repeat("n", 65) + "=x", "a=" + strings.Repeat("v", 129)} {
		out = append(out, entry(1, 1, words, "u"))
	}
	return append(out, entry(1, 1, "a=x", strings.Repeat("u", api.MaxLine+1)), api.Entry{})
}

// rightEdges: entries that are as small, and as great, as may be.
func rightEdges() []api.Entry {
	most := entry(api.MaxSeq-1, api.MaxTime-1, "", strings.Repeat("\xff", api.MaxLine))
	for i := range api.MaxLabels {
		most.Labels = append(most.Labels, api.Label{Name: strings.Repeat(string(rune('a'+i)), api.MaxName), Value: strings.Repeat("v", api.MaxValue)})
	}
	return []api.Entry{entry(1, 0, "a=x", ""), most, entry(2, api.MaxTime-1, "a=x", "\x00"), entry(api.MaxSeq-2, 0, "a=x", "")}
}

// P1402

func wantNoBytes(t *testing.T, what string, l []api.Entry, want api.Errno) {
	t.Helper()
	if b, e := segment.Encode(l); len(b) != 0 || e != want {
		t.Errorf("%s: %d bytes %d, want %d", what, len(b), e, want)
	}
}

// TestP1402Bytes: byte by byte, of one entry, and of three in two streams.
func TestP1402Bytes(t *testing.T) {
	for _, c := range []struct {
		l    []api.Entry
		want []string
	}{
		{[]api.Entry{entry(3, 5, "a=x", "u")}, []string{
			frame(2, "\x05\x01\x01a\x01x"+"\x01\x05\x03\x01u"), frame(3, "\x01"+"\x01a\x01x\x02\x01\x00"),
		}},
		{[]api.Entry{entry(9, 7, "b=y", ""), entry(4, 300, "a=x b=y", "v"), entry(3, 7, "b=y", "w")}, []string{
			frame(2, "\x09\x02\x01a\x01x\x01b\x01y"+"\x01\xac\x02\x04\x01v"), frame(2, "\x05\x01\x01b\x01y"+"\x02\x07\x03\x01w\x00\x0c\x00"),
			frame(3, "\x02"+"\x01a\x01x\x02\x01\x00"+"\x01b\x01y\x03\x02\x00\x00"),
		}},
	} {
		ahead := strings.Join(c.want, "")
		want := ahead + frame(4, number(len(c.want)-1)+number(len(c.l))+number(int(codec.Sum([]byte(ahead)))))
		b, e := segment.Encode(c.l)
		if string(b) != want || e != api.OK {
			t.Errorf("%s: %q %d, want %q", told(c.l), b, e, want)
		}
		twinOf(t, c.l...).looks("bytes")
	}
}

func TestP1402None(t *testing.T) {
	wantNoBytes(t, "nil", nil, api.ErrArg)
	wantNoBytes(t, "no entry", []api.Entry{}, api.ErrArg)
}

// TestP1402Wrong: one that may not be, alone and among others, also among too many, also where its Seq is another one's.
func TestP1402Wrong(t *testing.T) {
	long := slices.Repeat([]api.Entry{entry(1, 1, "a=x", strings.Repeat("u", 1024))}, 1100)
	for i := range long {
		long[i].Seq += i
	}
	wantNoBytes(t, "too many", long, api.ErrSize)
	for _, bad := range wrongEntries() {
		wantNoBytes(t, "alone", []api.Entry{bad}, api.ErrArg)
		wantNoBytes(t, "twice", []api.Entry{bad, bad}, api.ErrArg)
		for at := range 3 {
			wantNoBytes(t, "among others", slices.Insert(run(1, 2), at, bad), api.ErrArg)
			twins := []api.Entry{entry(bad.Seq, 1, "a=x", "u"), entry(bad.Seq, 1, "a=x", "u")}
			wantNoBytes(t, "of a Seq that is there", slices.Insert(twins, at, bad), api.ErrArg)
		}
		for _, at := range []int{0, 600, 1100} {
			wantNoBytes(t, "among too many", slices.Insert(slices.Clone(long), at, bad), api.ErrArg)
		}
	}
}

func TestP1402Edges(t *testing.T) {
	for _, x := range rightEdges() {
		twinOf(t, x).looks("alone")
	}
	twinOf(t, rightEdges()...).looks("all")
}

// TestP1402SameSeq: of those with the same Seq the first one counts.
func TestP1402SameSeq(t *testing.T) {
	x, y, z := entry(5, 9, "a=x", "first"), entry(5, 3, "a=x", "second"), entry(5, 9, "b=x", "third")
	for _, l := range [][]api.Entry{{x, x}, {x, y, z}, {z, y, x}, {y, x, x}, {x, z, entry(1, 1, "b=x", "")}, {entry(6, 1, "b=x", ""), z, x, y, entry(6, 1, "a=x", "")}} {
		twinOf(t, l...).looks("the same Seq")
	}
	w := twinOf(t, y, entry(4, 4, "a=x", ""), x, z)
	wantTold(t, "Entries", w.s.Entries(), []api.Entry{y, entry(4, 4, "a=x", "")})
}

// TestP1402AnyOrder: the same entries have the same bytes, however they stand.
func TestP1402AnyOrder(t *testing.T) {
	r := rand.New(rand.NewPCG(14, 1))
	want := twinOf(t, few()...)
	want.looks("few")
	for range 200 {
		l := few()
		r.Shuffle(len(l), func(i, j int) { l[i], l[j] = l[j], l[i] })
		if b, e := segment.Encode(l); !bytes.Equal(b, want.b) || e != api.OK {
			t.Fatalf("%s: %q %d", told(l), b, e)
		}
	}
}

// TestP1402Chunks: streams in the order of their labels, each 1000 rows a chunk.
func TestP1402Chunks(t *testing.T) {
	for _, n := range []int{1, 999, 1000, 1001, 1999, 2000, 2001, 3500} {
		var l []api.Entry
		for seq := n; seq > 0; seq-- {
			l = append(l, entry(seq, 5, "b=x", ""), entry(10000+seq, seq, "a=x b=x", "u"))
		}
		w := twinOf(t, append(l, entry(9999, 9, "a=x", ""))...)
		w.looks("long streams")
		wantN(t, "Chunks", w.s.Chunks(), 2*((n+999)/1000)+1)
	}
}

// filled: entries whose bytes are just so many.
func filled(t *testing.T, size int) []api.Entry {
	t.Helper()
	var l []api.Entry
	for seq := 1; seq <= 1022; seq++ {
		l = append(l, entry(seq, 1, "a=x", strings.Repeat("u", 1020)))
	}
	// Two lines of more than 127 bytes: each of their bytes counts as one.
	l = append(l, entry(2000, 1, "a=y", strings.Repeat("u", 500)), entry(2001, 1, "a=z", strings.Repeat("u", 500)))
	for i := 1; len(planOf(l).bytes()) != size; i++ {
		less := size - len(planOf(l).bytes())
		line := &l[len(l)-i].Line
		*line = strings.Repeat("u", min(max(len(*line)+less, 128), 1024))
		if i > 2 {
			t.Fatalf("%d bytes can't be filled", size)
		}
	}
	return l
}

// TestP1402Size: up to MaxBytes, and past it.
func TestP1402Size(t *testing.T) {
	for _, size := range []int{api.MaxBytes - 1, api.MaxBytes} {
		l := filled(t, size)
		w := twinOf(t, l...)
		wantN(t, "bytes", len(w.b), size)
		w.looks("large")
		if s, e := segment.Decode(append(slices.Clone(w.b), 0)); s != nil || e != api.ErrForm {
			t.Errorf("%d bytes and one more: %d", size, e)
		}
	}
	l := filled(t, api.MaxBytes+1)
	wantNoBytes(t, "one byte too many", l, api.ErrSize)
	if s, e := segment.Decode(planOf(l).bytes()); s != nil || e != api.ErrForm {
		t.Errorf("one byte too many: %v %d", s != nil, e)
	}
	// Entries that are left away have no bytes.
	l = filled(t, api.MaxBytes)
	twinOf(t, append(l, l...)...).looks("twice")
	// More than a frame, and more chunks than a list, may have.
	wantNoBytes(t, "streams", ownStreams(40000), api.ErrSize)
	wantNoBytes(t, "more streams than a list has", ownStreams(api.MaxList+1), api.ErrSize)
	wantNoBytes(t, "more streams than a list has", ownStreams(3*api.MaxList), api.ErrSize)
	// One chunk of a thousand of the longest lines is no more than a frame.
	for i := range l {
		l[i].Line = strings.Repeat("u", api.MaxLine)
	}
	twinOf(t, l[:1000]...).looks("the longest lines")
	wantNoBytes(t, "longest lines", l, api.ErrSize)
}

// TestP1402ManyStreams: nearly as many as have room.
func TestP1402ManyStreams(t *testing.T) {
	w := twinOf(t, ownStreams(5000)...)
	w.looks("many streams")
	wantN(t, "Chunks", w.s.Chunks(), 5000)
	b, e := segment.Encode(ownStreams(25000))
	wantE(t, "Encode", e, api.OK)
	s, e := segment.Decode(b)
	wantE(t, "Decode", e, api.OK)
	wantN(t, "Chunks", s.Chunks(), 25000)
	wantTold(t, "Find", s.Find(query(t, `{a="24999"}`)), ownStreams(24999)[24998:])
}

func wantNone(t *testing.T, what string, b []byte) {
	t.Helper()
	if s, e := segment.Decode(b); s != nil || e != api.ErrForm {
		t.Errorf("%s: Decode of %.300q: %v %d", what, b, s != nil, e)
	}
}

func TestP1402CutOff(t *testing.T) {
	wantNone(t, "nil", nil)
	wantNone(t, "nothing", []byte{})
	for _, l := range [][]api.Entry{run(1, 1), few()} {
		w := twinOf(t, l...)
		for n := range w.b {
			wantNone(t, "cut off", w.b[:n])
			wantNone(t, "cut off in front", w.b[n+1:])
			wantNone(t, "a byte less", slices.Delete(slices.Clone(w.b), n, n+1))
			wantNone(t, "a byte more", slices.Insert(slices.Clone(w.b), n, w.b[n]))
		}
		for c := range 256 {
			wantNone(t, "a byte behind", append(slices.Clone(w.b), byte(c)))
			wantNone(t, "a byte ahead", append([]byte{byte(c)}, w.b...))
		}
		wantNone(t, "twice", slices.Concat(w.b, w.b))
		w.looks("whole")
	}
}

// TestP1402OtherByte: each byte, as each other one.
func TestP1402OtherByte(t *testing.T) {
	for _, l := range [][]api.Entry{run(1, 1), few()} {
		b := twinOf(t, l...).b
		for i, c := range b {
			for other := range 256 {
				if byte(other) == c {
					continue
				}
				b[i] = byte(other)
				wantNone(t, "another byte", b)
			}
			b[i] = c
		}
	}
}

// ended: frames with an end behind, that tells these numbers and their sum.
func ended(frames []string, chunks, rows int) []byte {
	ahead := strings.Join(frames, "")
	return []byte(ahead + frame(4, number(chunks)+number(rows)+number(int(codec.Sum([]byte(ahead))))))
}

// otherwise: what might stand in a frame in the place of in.
func otherwise(in []byte) []string {
	out := []string{"", string(in) + "\x00", string(in) + "\x01", string(in) + "\x80", string(in) + string(in)}
	for at, c := range in {
		out = append(out, string(in[:at]), string(in[at+1:]))
		for _, other := range []byte{c + 1, c - 1, c ^ 0x80, c ^ 0x20} {
			out = append(out, string(in[:at])+string([]byte{other})+string(in[at+1:]))
		}
	}
	return slices.DeleteFunc(out, func(s string) bool { return s == string(in) })
}

// mayBe: whether b is what is planned for the entries of its chunks.
func mayBe(b []byte) bool {
	var l []api.Entry
	for rest := b; ; {
		kind, in, n, _ := codec.Unframe(rest)
		c, e := chunk.Get(in)
		if kind != 2 || e != api.OK {
			return len(l) > 0 && string(planOf(l).bytes()) == string(b)
		}
		l, rest = append(l, chunk.Between(c, 0, api.MaxTime)...), rest[n:]
	}
}

// TestP1402OtherPart: each frame's contents otherwise, all sums being right.
func TestP1402OtherPart(t *testing.T) {
	w := twinOf(t, few()...)
	frames := planOf(few()).frames()
	end := len(frames) - 1
	for i, f := range frames {
		kind, in, _, _ := codec.Unframe([]byte(f))
		for _, other := range otherwise(in) {
			spoilt := slices.Clone(frames)
			spoilt[i] = frame(kind, other)
			wantNone(t, "other contents", []byte(strings.Join(spoilt, "")))
			if i == end {
				continue
			}
			// With the right sum other times, numbers and lines may be as well.
			b := ended(spoilt[:end], w.s.Chunks(), w.s.Rows())
			if !mayBe(b) {
				wantNone(t, "other contents, with the right sum", b)
			} else if s, e := segment.Decode(b); e != api.OK || string(planOf(s.Entries()).bytes()) != string(b) {
				t.Errorf("other contents that may be: %q: %d", b, e)
			}
		}
	}
	wantN(t, "not spoilt", bytes.Compare(ended(frames[:end], w.s.Chunks(), w.s.Rows()), w.b), 0)
}

// wantNonePlan: whether these are no segment's bytes, though all sums are right.
func wantNonePlan(t *testing.T, what string, p plan) {
	t.Helper()
	wantNone(t, what, p.bytes())
}

// TestP1402OtherChunks: in another order, and such as Group does not make.
func TestP1402OtherChunks(t *testing.T) {
	right := chunk.Group(few())
	for i := range right {
		for j := range i {
			other := slices.Clone(right)
			other[i], other[j] = other[j], other[i]
			wantNonePlan(t, "another order", planOfChunks(other))
			// Also with an index and numbers that are those of the right order.
			p := planOf(few())
			p.chunks = other
			wantNonePlan(t, "another order of the chunks alone", p)
		}
		wantNonePlan(t, "one twice", planOfChunks(slices.Insert(slices.Clone(right), i, right[i])))
		p := planOf(few())
		p.chunks = slices.Delete(slices.Clone(right), i, i+1)
		wantNonePlan(t, "one is not there", p)
		if s, e := segment.Decode(planOfChunks(p.chunks).bytes()); s == nil || e != api.OK {
			t.Errorf("without the chunk %d, all else being so: %d", i, e)
		}
	}
	one, two := entry(1, 5, "a=x", "u"), entry(2, 6, "a=x", "v")
	group := func(l ...api.Entry) chunk.Chunk { return chunk.Group(l)[0] }
	wantNonePlan(t, "a stream in two chunks", planOfChunks([]chunk.Chunk{group(one), group(two)}))
	wantNonePlan(t, "a stream in two chunks, the later ahead", planOfChunks([]chunk.Chunk{group(two), group(one)}))
	wantNonePlan(t, "a Seq in two chunks", planOfChunks([]chunk.Chunk{group(one), group(entry(1, 5, "b=x", "u"))}))
	var long []api.Entry
	for seq := 1; seq <= 1500; seq++ {
		long = append(long, entry(seq, seq, "a=x", ""))
	}
	wantNonePlan(t, "not as many rows as could be", planOfChunks([]chunk.Chunk{chunk.Group(long[:999])[0], chunk.Group(long[999:])[0]}))
	wantNonePlan(t, "no chunk", planOfChunks(nil))
}

// TestP1402OtherIndex: one that lacks a label, has one too many, or out of
// order, or lists other chunks.
func TestP1402OtherIndex(t *testing.T) {
	haves := planOf(few()).haves
	with := func(what string, change func(l []have) []have) {
		t.Helper()
		p := planOf(few())
		p.haves = change(slices.Clone(haves))
		wantNonePlan(t, what, p)
	}
	for i, h := range haves {
		with("a label is not there", func(l []have) []have { return slices.Delete(l, i, i+1) })
		with("a label twice", func(l []have) []have { return slices.Insert(l, i, h) })
		for j := range i {
			with("another order", func(l []have) []have { l[i], l[j] = l[j], l[i]; return l })
			with("others' lists", func(l []have) []have { l[i].in, l[j].in = l[j].in, l[i].in; return l })
		}
		for _, in := range [][]int{nil, {0}, {1}, {2}, {3}, {0, 1, 2, 3, 4}, h.in[1:], append(slices.Clone(h.in), 6), append(slices.Clone(h.in), 9)} {
			if !slices.Equal(in, h.in) {
				with("another list", func(l []have) []have { l[i].in = in; return l })
			}
		}
		for _, x := range []api.Label{{Name: "z", Value: "z"}, {Name: h.label.Name, Value: h.label.Value + "x"}, {Name: h.label.Name + "x", Value: h.label.Value}, {}, {Name: h.label.Value, Value: h.label.Name}} {
			with("another label", func(l []have) []have { l[i].label = x; return l })
			for _, in := range [][]int{nil, {0}, h.in} {
				with("a label more", func(l []have) []have { return slices.Insert(l, i, have{x, in}) })
				with("a label more behind", func(l []have) []have { return append(l, have{x, in}) })
			}
		}
	}
	with("no label", func(l []have) []have { return nil })
	with("as it is, but for nothing", func(l []have) []have { return slices.Concat(l, l) })
}

// TestP1402OtherNumbers: of labels, of chunks, of rows, and the sum.
func TestP1402OtherNumbers(t *testing.T) {
	for i := range 4 {
		for _, more := range []int{-3, -2, -1, 1, 2, 128, 1 << 32} {
			p := planOf(few())
			p.more[i] = more
			// Of labels there are 4, of chunks 6, of rows 7; a sum has 32 bits.
			wantNonePlan(t, "another number", p)
		}
	}
	for i, right := range []int{2, 3, 4} {
		for kind := range 256 {
			p := planOf(few())
			p.kinds[i] = kind
			if kind != right {
				wantNonePlan(t, "another kind", p)
			}
		}
	}
}

// TestP1402Frames: without one of the parts, with one twice, with the parts in
// another order, with a frame more.
func TestP1402Frames(t *testing.T) {
	frames := planOf(few()).frames()
	end := len(frames) - 1
	all := func(l []string) []byte { return []byte(strings.Join(l, "")) }
	both := func(what string, l []string) {
		t.Helper()
		wantNone(t, what, all(l))
		if last := len(l) - 1; l[last] == frames[end] {
			wantNone(t, what+", with the right sum", ended(l[:last], 6, 7))
		}
	}
	for i, f := range frames {
		both("without a part", slices.Delete(slices.Clone(frames), i, i+1))
		both("a part twice", slices.Insert(slices.Clone(frames), i, f))
		for j := range i {
			other := slices.Clone(frames)
			other[i], other[j] = other[j], other[i]
			both("another order", other)
		}
		for kind := range 6 {
			for _, in := range []string{"", "\x00", "some"} {
				both("a frame more", slices.Insert(slices.Clone(frames), i, frame(kind, in)))
				wantNone(t, "a frame behind", all(append(slices.Clone(frames), frame(kind, in))))
			}
		}
	}
	wantNone(t, "the index alone", []byte(frame(3, "\x00")))
	wantNone(t, "of nothing", ended([]string{frame(3, "\x00")}, 0, 0))
	wantNone(t, "the end alone", ended(nil, 0, 0))
}
