package chunk_test

import (
	"bytes"
	"math"
	"math/rand/v2"
	"reflect"
	"slices"
	"strconv"
	"strings"
	"testing"

	"icehouse/api"
	"icehouse/chunk"
	"icehouse/codec"
	"icehouse/record"
)

// most: rows of a chunk.
const most = 1000

// of: labels from names and values, one behind the other.
func of(words ...string) []api.Label {
	l := []api.Label{}
	for i := 0; i < len(words); i += 2 {
		l = append(l, api.Label{Name: words[i], Value: words[i+1]})
	}
	return l
}

// ax: a chunk of the labels of most chunks here.
func ax(rows ...chunk.Row) chunk.Chunk { return chunk.Chunk{Labels: of("a", "x"), Rows: rows} }

func row(seq, time int, line string) chunk.Row { return chunk.Row{Seq: seq, Time: time, Line: line} }

// labeled: a chunk of one row, of these names and values.
func labeled(words ...string) chunk.Chunk {
	return chunk.Chunk{Labels: of(words...), Rows: []chunk.Row{row(1, 2, "u")}}
}

// example: the chapter's.
func example() chunk.Chunk { return ax(row(4, 10, "u"), row(2, 11, "v")) }

// long: n rows, their numbers from seq on in turn, two of each time.
func long(seq, n int) chunk.Chunk {
	c := ax()
	for i := range n {
		c.Rows = append(c.Rows, row(seq+i, i/2, strconv.Itoa(i)))
	}
	return c
}

// largest: a chunk with nothing less than it may have, whose differences are as great as can be.
func largest() chunk.Chunk {
	var c chunk.Chunk
	for i := range api.MaxLabels {
		name := string(rune('a'+i)) + strings.Repeat("n", api.MaxName-1)
		c.Labels = append(c.Labels, api.Label{Name: name, Value: strings.Repeat("v", api.MaxValue)})
	}
	for i := range most {
		seq, time := 1+i, 0
		if i%2 == 1 {
			seq = api.MaxSeq - 1 - i
		}
		if i > 0 {
			time = api.MaxTime - most + i
		}
		c.Rows = append(c.Rows, row(seq, time, strings.Repeat("l", api.MaxLine)))
	}
	return c
}

// text, number, signed: as chapter 1 writes them.
func text(s string) []byte { b, _ := codec.Text(s); return b }

func number(n int) []byte { b, _ := codec.Number(n); return b }

func signed(n int) []byte { b, _ := codec.Signed(n); return b }

// written: the bytes of a chunk, whether it may be or not (its times not falling, its numbers not too far apart).
func written(c chunk.Chunk) []byte {
	labels := number(len(c.Labels))
	for _, x := range c.Labels {
		labels = slices.Concat(labels, text(x.Name), text(x.Value))
	}
	b := append(text(string(labels)), number(len(c.Rows))...)
	for i, x := range c.Rows {
		if i == 0 {
			b = slices.Concat(b, number(x.Time), number(x.Seq), text(x.Line))
			continue
		}
		ahead := c.Rows[i-1]
		b = slices.Concat(b, number(x.Time-ahead.Time), signed(x.Seq-ahead.Seq), text(x.Line))
	}
	return b
}

// rights: chunks that may be.
func rights() []chunk.Chunk {
	return []chunk.Chunk{
		example(),
		ax(row(1, 0, "")),
		ax(row(api.MaxSeq-1, api.MaxTime-1, "\xff\x00\n any bytes \xc3")),
		ax(row(1, 0, ""), row(2, 0, "")),
		ax(row(1, 0, ""), row(api.MaxSeq-1, 0, "")),
		ax(row(api.MaxSeq-1, 0, ""), row(1, 1, "")),
		ax(row(1, 0, ""), row(2, api.MaxTime-1, "")),
		ax(row(9, 1, "x"), row(8, 2, "x"), row(7, 3, "x"), row(6, 4, "x")),
		ax(row(5, 5, strings.Repeat("x", 127)), row(6, 5, strings.Repeat("x", 128)), row(7, 5, strings.Repeat("x", 1024))),
		labeled("a", "x", "b", "x"),
		labeled("B", "\u00e9", "_", " ", "a", "{}"),
		labeled(strings.Repeat("n", 64), strings.Repeat("v", 128)),
		long(1, 127), long(1, 128), long(1, most-1), long(1, most),
		long(api.MaxSeq-most, most),
		largest(),
	}
}

// wrongs: chunks that may not be, but whose bytes could be written.
func wrongs() []chunk.Chunk {
	many := largest()
	many.Labels = append(many.Labels, api.Label{Name: "z", Value: "z"})
	far := long(1, most)
	far.Rows[most-1].Seq = 1 // the number of the first row
	return []chunk.Chunk{
		{}, ax(), {Rows: example().Rows},
		long(1, most+1), long(1, 5*most),
		ax(row(0, 2, "u")), ax(row(0, 2, "u"), row(1, 2, "u")), ax(row(1, 2, "u"), row(0, 3, "u")),
		ax(row(1, 2, "u"), row(-1, 3, "u")),
		ax(row(api.MaxSeq, 2, "u")), ax(row(1<<56-1, 2, "u")),
		ax(row(1, 2, "u"), row(api.MaxSeq, 2, "u")), ax(row(1, 2, "u"), row(1<<54, 2, "u")),
		long(api.MaxSeq-most+1, most), long(0, most),
		ax(row(1, api.MaxTime, "u")), ax(row(1, 1<<56-1, "u")),
		ax(row(1, 2, "u"), row(2, api.MaxTime, "u")), ax(row(1, 2, "u"), row(2, 1<<55, "u")),
		ax(row(1, 2, strings.Repeat("x", 1025))),
		ax(row(1, 2, ""), row(2, 2, strings.Repeat("x", 1025))), ax(row(1, 2, ""), row(2, 2, strings.Repeat("x", 65536))),
		// Of one time, but the numbers don't rise.
		ax(row(4, 2, "u"), row(3, 2, "u")), ax(row(4, 2, "u"), row(4, 2, "u")),
		ax(row(3, 1, ""), row(5, 2, ""), row(4, 2, "")),
		// A number twice, side by side and not.
		ax(row(4, 2, "u"), row(4, 3, "u")), ax(row(4, 2, "u"), row(5, 2, "u"), row(4, 3, "u")),
		ax(row(4, 2, "u"), row(9, 3, "v"), row(1, 4, "w"), row(4, 5, "x")), far,
		labeled(), labeled("", "x"), labeled("a", ""), labeled("0", "x"), labeled("a", "\xff"),
		labeled("b", "x", "a", "x"), labeled("a", "x", "a", "x"), labeled("a", "x", "a", "y"),
		labeled(strings.Repeat("n", 65), "x"), labeled("a", strings.Repeat("v", 129)), many,
	}
}

// beyond: chunks that may not be, and that have no bytes.
func beyond() []chunk.Chunk {
	l := []chunk.Chunk{
		ax(row(1, 3, "u"), row(2, 2, "u")), ax(row(1, 1, "u"), row(2, 2, "u"), row(3, 0, "u")),
		ax(row(1, 0, "u"), row(2, -1, "u")),
	}
	for _, n := range []int{-1, -2, -api.MaxSeq, math.MinInt, math.MinInt + 1, 1 << 56, math.MaxInt} {
		l = append(l, ax(row(n, 2, "u")), ax(row(1, n, "u")), ax(row(n, n, "u")))
		l = append(l, ax(row(n, 2, "u"), row(1, 2, "u")), ax(row(1, 2, "u"), row(n, 2, "u")))
		l = append(l, ax(row(1, n, "u"), row(2, 2, "u")), ax(row(1, 2, "u"), row(2, n, "u")))
	}
	return l
}

func wantBytes(t *testing.T, what string, c chunk.Chunk, wantB []byte, wantE api.Errno) {
	t.Helper()
	if b, e := chunk.Put(c); e != wantE || !bytes.Equal(b, wantB) {
		t.Errorf("%s: % x %d, want % x %d", what, b[:min(len(b), 40)], e, wantB[:min(len(wantB), 40)], wantE)
	}
}

func wantChunk(t *testing.T, what string, b []byte, want chunk.Chunk) {
	t.Helper()
	if c, e := chunk.Get(b); e != api.OK || !reflect.DeepEqual(c, want) {
		t.Errorf("%s: Get(% x): %v %d, want %v", what, b[:min(len(b), 40)], c, e, want)
	}
}

func wantNone(t *testing.T, what string, b []byte) {
	t.Helper()
	if c, e := chunk.Get(b); e != api.ErrForm || len(c.Labels) != 0 || len(c.Rows) != 0 {
		t.Errorf("%s: Get(% x): %v %d, want ErrForm and nothing", what, b[:min(len(b), 40)], c, e)
	}
}

// P402

func TestP402Right(t *testing.T) {
	for i, c := range rights() {
		if !chunk.Right(c) {
			t.Errorf("%d: %v may be", i, c)
		}
	}
	for i, c := range append(wrongs(), beyond()...) {
		if chunk.Right(c) {
			t.Errorf("%d: %v may not be", i, c)
		}
	}
}

// mayBe: what Right should say, each two rows held against each other.
func mayBe(c chunk.Chunk) bool {
	for i, x := range c.Rows {
		if !record.Right(api.Entry{Seq: x.Seq, Time: x.Time, Labels: c.Labels, Line: x.Line}) {
			return false
		}
		for _, y := range c.Rows[:i] {
			if y.Seq == x.Seq || y.Time > x.Time || y.Time == x.Time && y.Seq > x.Seq {
				return false
			}
		}
	}
	return 1 <= len(c.Rows) && len(c.Rows) <= most
}

func TestP402RightOfAny(t *testing.T) {
	r := rand.New(rand.NewPCG(4, 1))
	found := [2]int{}
	for range 100000 {
		c := ax()
		time := 0
		for range r.IntN(5) {
			time += r.IntN(5)/2 - r.IntN(9)/8
			c.Rows = append(c.Rows, row(r.IntN(10), time, "u"))
		}
		want := mayBe(c)
		if chunk.Right(c) != want {
			t.Fatalf("%v: %v", c, !want)
		}
		if want {
			found[1]++
		} else {
			found[0]++
		}
	}
	if min(found[0], found[1]) < 10000 {
		t.Error("too few of one kind:", found)
	}
}

func TestP402Put(t *testing.T) {
	wantBytes(t, "the example", example(), []byte{5, 1, 1, 97, 1, 120, 2, 10, 4, 1, 117, 1, 3, 1, 118}, api.OK)
	wantBytes(t, "longer numbers", ax(row(300, 128, "uv"), row(500, 428, "")),
		[]byte{5, 1, 1, 97, 1, 120, 2, 128, 1, 172, 2, 2, 'u', 'v', 172, 2, 144, 3, 0}, api.OK)
	for _, c := range rights() {
		wantBytes(t, "Put", c, written(c), api.OK)
	}
	for _, c := range append(wrongs(), beyond()...) {
		wantBytes(t, "Put of what may not be", c, nil, api.ErrArg)
	}
}

func TestP402Get(t *testing.T) {
	wantChunk(t, "the example", []byte{5, 1, 1, 97, 1, 120, 2, 10, 4, 1, 117, 1, 3, 1, 118}, example())
	for _, c := range rights() {
		b := written(c)
		wantChunk(t, "Get", b, c)
		for n := 0; n < len(b); n += 1 + len(b)/300 {
			wantNone(t, "cut off", b[:n])
		}
		wantNone(t, "the last byte cut off", b[:len(b)-1])
		for _, more := range []byte{0, 1, 127, 128, 255} {
			wantNone(t, "more behind", append(bytes.Clone(b), more))
		}
		wantNone(t, "twice the same", append(bytes.Clone(b), b...))
	}
	// Written well, but they may not be.
	for _, c := range wrongs() {
		wantNone(t, "what may not be", written(c))
	}
}

func TestP402GetNone(t *testing.T) {
	const labels = "\x05\x01\x01a\x01x"
	const huge = "\xff\xff\xff\xff\xff\xff\xff\x7f"
	for _, s := range []string{
		"", "\x00", "\x05", "\x80", "\xff", labels, labels + "\x00", labels + "\x01",
		// No labels, labels that are cut off, have more behind them, are no text, or not written so.
		"\x00\x01\x02\x01\x00", "\x01\x00\x01\x02\x01\x00", "\x04\x01\x01a\x01\x01\x02\x01\x00",
		"\x06\x01\x01a\x01x\x00\x01\x02\x01\x00", labels[1:] + "\x01\x02\x01\x00",
		"\x85\x00" + labels[1:] + "\x01\x02\x01\x00", "\x06\x01\x81\x00a\x01x\x01\x02\x01\x00",
		// Fewer or more rows than the number says.
		labels + "\x00\x02\x01\x00", labels + "\x02\x02\x01\x00", labels + "\x01\x02\x01\x00\x01\x02\x00",
		// Numbers and lengths that are not written as numbers are.
		labels + "\x81\x00\x02\x01\x00", labels + "\x01\x82\x00\x01\x00", labels + "\x01\x02\x81\x00\x00", labels + "\x01\x02\x01\x80\x00",
		labels + "\x02\x02\x01\x00\x81\x00\x02\x00", labels + "\x02\x02\x01\x00\x01\x82\x00\x00", labels + "\x02\x02\x01\x00\x01\x02\x80\x00",
		// Huge ones.
		huge + labels[1:] + "\x01\x02\x01\x00", labels + huge, labels + huge + "\x02\x01\x00",
		labels + "\x01" + huge + "\x01\x00", labels + "\x01\x02" + huge + "\x00", labels + "\x01\x02\x01" + huge,
		labels + "\x02\x02\x01\x00" + huge + "\x02\x00", labels + "\x02\x02\x01\x00\x01" + huge + "\x00",
		labels + "\x01\x02\x01\x81\x80\x04" + strings.Repeat("x", 65537),
		labels + "\x01\xff" + huge + "\x01\x00",
	} {
		wantNone(t, strconv.Quote(s), []byte(s))
	}
	wantNone(t, "nil", nil)
	wantNone(t, "many zeros", make([]byte, 1<<20))
	wantChunk(t, "one row", []byte(labels+"\x01\x02\x01\x00"), ax(row(1, 2, "")))
}

// TestP402GetRound: differences whose sums wrap round, and end where a row may be.
func TestP402GetRound(t *testing.T) {
	head := text("\x01\x01a\x01x")
	// 256 times 2^56 - 1, and 256, are 2^64: the time is where it was.
	b := slices.Concat(head, number(258), number(5), number(1), text(""))
	for range 256 {
		b = slices.Concat(b, number(1<<56-1), signed(1), text(""))
	}
	wantNone(t, "times", slices.Concat(b, number(256), signed(1), text("")))
	// 512 times 2^55 are 2^64, too.
	b = slices.Concat(head, number(514), number(5), number(9), text(""))
	for range 512 {
		b = slices.Concat(b, number(1), signed(-1<<55), text(""))
	}
	wantNone(t, "numbers", slices.Concat(b, number(1), signed(1), text("")))
}

// bent: b with a few bytes changed, put in, or taken out.
func bent(r *rand.Rand, b []byte) []byte {
	b = bytes.Clone(b)
	for range r.IntN(3) {
		at := r.IntN(len(b))
		switch r.IntN(3) {
		case 0:
			b[at] = []byte{0, 1, 2, 3, 'a', 128, 129, 255}[r.IntN(8)]
		case 1:
			b = slices.Insert(b, at, byte(r.IntN(256)))
		default:
			b = append(slices.Delete(b, at, at+1), 'x')
		}
	}
	return b
}

// random: a chunk that may be.
func random(r *rand.Rand) chunk.Chunk {
	c := ax()
	for i := range r.IntN(3) {
		c.Labels = append(c.Labels, api.Label{Name: "b" + string(rune('a'+i)), Value: strconv.Itoa(r.IntN(1000))})
	}
	bound := []int{9, 300, 1 << 20, 1 << 39}[r.IntN(4)]
	seen := map[int]int{}
	for range 1 + r.IntN(7) {
		seq := 1 + r.IntN(bound)
		if seen[seq] == 0 {
			seen[seq] = 1
			c.Rows = append(c.Rows, row(seq, r.IntN(bound), strings.Repeat("\xffl", r.IntN(80))))
		}
	}
	slices.SortFunc(c.Rows, inOrder)
	return c
}

// inOrder: which of two rows stands ahead.
func inOrder(a, b chunk.Row) int {
	if a.Time != b.Time {
		return a.Time - b.Time
	}
	return a.Seq - b.Seq
}

// TestP402OneForm: bytes that are got as a chunk are what is put of it.
func TestP402OneForm(t *testing.T) {
	r := rand.New(rand.NewPCG(4, 2))
	good := [2]int{}
	for range 100000 {
		of := random(r)
		b := bent(r, written(of))
		c, e := chunk.Get(b)
		if e != api.OK {
			wantNone(t, "bent", b)
			continue
		}
		if !mayBe(c) || !bytes.Equal(written(c), b) {
			t.Fatalf("% x: %v", b, c)
		}
		if reflect.DeepEqual(c, of) {
			good[0]++
		} else {
			good[1]++
		}
	}
	if min(good[0], good[1]) < 1000 {
		t.Error("too few were chunks, as they were or others:", good)
	}
}

// P405

func TestP405ThereAndBack(t *testing.T) {
	there := func(c chunk.Chunk) {
		b, e := chunk.Put(c)
		if e != api.OK {
			t.Fatalf("%v: %d", c, e)
		}
		wantChunk(t, "there and back", b, c)
	}
	for _, c := range rights() {
		there(c)
	}
	r := rand.New(rand.NewPCG(4, 3))
	for range 20000 {
		there(random(r))
	}
	// Each byte comes back in a line.
	for n := range 256 {
		there(ax(row(1, 1, string([]byte{byte(n)}))))
	}
}
