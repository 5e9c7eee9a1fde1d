package record_test

import (
	"bytes"
	"math"
	"math/rand/v2"
	"reflect"
	"strconv"
	"strings"
	"testing"

	"icehouse/api"
	"icehouse/record"
)

// ax: the labels of most entries here.
func ax() []api.Label { return []api.Label{{Name: "a", Value: "x"}} }

func entry(seq, time int, line string) api.Entry {
	return api.Entry{Seq: seq, Time: time, Labels: ax(), Line: line}
}

// labeled: an entry whose labels are names and values, one behind the other.
func labeled(words ...string) api.Entry {
	x := api.Entry{Seq: 1, Time: 2, Line: "u"}
	for i := 0; i < len(words); i += 2 {
		x.Labels = append(x.Labels, api.Label{Name: words[i], Value: words[i+1]})
	}
	return x
}

// largest: an entry with nothing less than it may have.
func largest(seq int) api.Entry {
	x := entry(seq, api.MaxTime-1, strings.Repeat("l", api.MaxLine))
	x.Labels = nil
	for i := range api.MaxLabels {
		name := string(rune('a'+i)) + strings.Repeat("n", api.MaxName-1)
		x.Labels = append(x.Labels, api.Label{Name: name, Value: strings.Repeat("v", api.MaxValue)})
	}
	return x
}

// number: n as a number is written, told by division and not by bits.
func number(n int) []byte {
	b := []byte{}
	for n > 127 {
		b = append(b, byte(n%128)+128)
		n /= 128
	}
	return append(b, byte(n))
}

func text(s string) []byte { return append(number(len(s)), s...) }

func labelBytes(l []api.Label) []byte {
	b := number(len(l))
	for _, x := range l {
		b = append(append(b, text(x.Name)...), text(x.Value)...)
	}
	return b
}

// written: the bytes of an entry, whether it may be or not (its numbers not below 0).
func written(x api.Entry) []byte {
	b := append(number(x.Seq), number(x.Time)...)
	b = append(b, text(string(labelBytes(x.Labels)))...)
	return append(b, text(x.Line)...)
}

// rights: entries that may be.
func rights() []api.Entry {
	return []api.Entry{
		entry(1, 2, ""),
		entry(1, 0, "u"),
		entry(127, 128, "some line"),
		entry(128, 127, "some line"),
		entry(api.MaxSeq-1, 0, "u"),
		entry(1, api.MaxTime-1, "u"),
		entry(api.MaxSeq-1, api.MaxTime-1, "\xff\x00\n any bytes \xc3"),
		entry(5, 5, strings.Repeat("x", 127)),
		entry(5, 5, strings.Repeat("x", 128)),
		entry(5, 5, strings.Repeat("x", 1024)),
		labeled("a", "x", "b", "x"),
		labeled("B", "\u00e9", "_", " ", "a", "{}"),
		labeled(strings.Repeat("n", 64), strings.Repeat("v", 128)),
		largest(7),
	}
}

// wrongs: entries that may not be, but whose bytes could be written.
func wrongs() []api.Entry {
	many := largest(1)
	many.Labels = append(many.Labels, api.Label{Name: "z", Value: "z"})
	return []api.Entry{
		{},
		entry(0, 2, "u"),
		entry(api.MaxSeq, 2, "u"),
		entry(api.MaxSeq+1, 2, "u"),
		entry(1<<56-1, 2, "u"),
		entry(1, api.MaxTime, "u"),
		entry(1, api.MaxTime+1, "u"),
		entry(1, 1<<56-1, "u"),
		entry(1, 2, strings.Repeat("x", 1025)),
		entry(1, 2, strings.Repeat("x", 65536)),
		entry(0, api.MaxTime, strings.Repeat("x", 1025)),
		labeled(),
		labeled("", "x"),
		labeled("a", ""),
		labeled("0", "x"),
		labeled("a", "\xff"),
		labeled("b", "x", "a", "x"),
		labeled("a", "x", "a", "x"),
		labeled("a", "x", "a", "y"),
		labeled(strings.Repeat("n", 65), "x"),
		labeled("a", strings.Repeat("v", 129)),
		many,
	}
}

// beyond: entries that may not be, and whose numbers have no bytes.
func beyond() []api.Entry {
	var l []api.Entry
	for _, n := range []int{-1, -2, -api.MaxSeq, math.MinInt, math.MinInt + 1, 1 << 56, math.MaxInt} {
		l = append(l, entry(n, 2, "u"), entry(1, n, "u"), entry(n, n, "u"))
	}
	return l
}

func wantBytes(t *testing.T, what string, b []byte, e api.Errno, wantB []byte, wantE api.Errno) {
	t.Helper()
	if e != wantE || !bytes.Equal(b, wantB) {
		t.Errorf("%s: % x %d, want % x %d", what, b[:min(len(b), 40)], e, wantB[:min(len(wantB), 40)], wantE)
	}
}

func wantEntry(t *testing.T, what string, b []byte, want api.Entry) {
	t.Helper()
	if x, e := record.Get(b); e != api.OK || !reflect.DeepEqual(x, want) {
		t.Errorf("%s: Get(% x): %v %d, want %v", what, b[:min(len(b), 40)], x, e, want)
	}
}

func wantNoEntry(t *testing.T, what string, b []byte) {
	t.Helper()
	x, e := record.Get(b)
	if e != api.ErrForm || x.Seq != 0 || x.Time != 0 || len(x.Labels) != 0 || x.Line != "" {
		t.Errorf("%s: Get(% x): %v %d, want ErrForm and nothing", what, b[:min(len(b), 40)], x, e)
	}
}

// P302

func TestP302Right(t *testing.T) {
	for _, x := range rights() {
		if !record.Right(x) {
			t.Errorf("%v may be", x)
		}
	}
	for _, x := range append(wrongs(), beyond()...) {
		if record.Right(x) {
			t.Errorf("%v may not be", x)
		}
	}
}

func TestP302Put(t *testing.T) {
	b, e := record.Put(entry(1, 2, ""))
	wantBytes(t, "the example", b, e, []byte{1, 2, 5, 1, 1, 97, 1, 120, 0}, api.OK)
	b, e = record.Put(entry(300, 128, "uv"))
	wantBytes(t, "longer numbers", b, e, []byte{172, 2, 128, 1, 5, 1, 1, 97, 1, 120, 2, 'u', 'v'}, api.OK)
	for _, x := range rights() {
		b, e := record.Put(x)
		wantBytes(t, "Put", b, e, written(x), api.OK)
	}
	for _, x := range append(wrongs(), beyond()...) {
		b, e := record.Put(x)
		wantBytes(t, "Put of what may not be", b, e, nil, api.ErrArg)
	}
}

func TestP302Size(t *testing.T) {
	if n := record.Size(entry(1, 2, "")); n != 9 {
		t.Error("the example has 9 bytes, not", n)
	}
	for _, x := range rights() {
		if n := record.Size(x); n != len(written(x)) {
			t.Errorf("%v: %d bytes, want %d", x, n, len(written(x)))
		}
	}
	for _, x := range append(wrongs(), beyond()...) {
		if n := record.Size(x); n != 0 {
			t.Errorf("%v: %d bytes", x, n)
		}
	}
}

func TestP302Get(t *testing.T) {
	wantEntry(t, "the example", []byte{1, 2, 5, 1, 1, 97, 1, 120, 0}, entry(1, 2, ""))
	for _, x := range rights() {
		b := written(x)
		wantEntry(t, "Get", b, x)
		for n := range b {
			wantNoEntry(t, "cut off", b[:n])
		}
		for c := range 256 {
			wantNoEntry(t, "more behind", append(bytes.Clone(b), byte(c)))
		}
		wantNoEntry(t, "twice the same", append(bytes.Clone(b), b...))
	}
	// Written well, but they may not be.
	for _, x := range wrongs() {
		wantNoEntry(t, "what may not be", written(x))
	}
}

func TestP302GetNone(t *testing.T) {
	const labels = "\x05\x01\x01a\x01x"
	for _, s := range []string{
		"", "\x00", "\x01", "\x80", "\xff", "\x01\x02", "\x01\x02\x05",
		// Numbers and lengths that are not written as numbers are.
		"\x81\x00\x02" + labels + "\x00",
		"\x01\x82\x00" + labels + "\x00",
		"\x01\x02\x85\x00" + labels[1:] + "\x00",
		"\x01\x02" + labels + "\x80\x00",
		"\x01\x02" + labels + "\x81\x00u",
		"\x01\x02\x07\x01\x81\x00a\x01x\x00",
		"\x01\x02\x06\x81\x00\x01a\x01x\x00",
		// No labels, labels that are cut off, and more behind them.
		"\x01\x02\x00\x00", "\x01\x02\x01\x00\x00", "\x01\x02\x04\x01\x01a\x01\x00", "\x01\x02\x06\x01\x01a\x01x\x00\x00",
		// Labels that are no text.
		"\x01\x02\x01\x01a\x01x\x00",
		// Numbers of more than eight bytes, and huge ones.
		"\xff\xff\xff\xff\xff\xff\xff\xff\x01\x02" + labels + "\x00",
		"\xff\xff\xff\xff\xff\xff\xff\x7f\x02" + labels + "\x00",
		"\x01\xff\xff\xff\xff\xff\xff\xff\x7f" + labels + "\x00",
		"\x01\x02\xff\xff\xff\xff\xff\xff\xff\x7f" + labels[1:] + "\x00",
		"\x01\x02" + labels + "\xff\xff\xff\xff\xff\xff\xff\x7f",
	} {
		wantNoEntry(t, strconv.Quote(s), []byte(s))
	}
	wantNoEntry(t, "nil", nil)
	wantNoEntry(t, "many zeros", make([]byte, 1<<20))
	wantNoEntry(t, "a long line", written(entry(1, 2, strings.Repeat("x", 1<<20))))
}

// random: an entry that may be.
func random(r *rand.Rand) api.Entry {
	x := entry(1+r.IntN(api.MaxSeq-1), r.IntN(api.MaxTime), strings.Repeat("\xffl", r.IntN(100)))
	if r.IntN(2) == 0 {
		x.Seq, x.Time = 1+r.IntN(5), r.IntN(5)
	}
	for i := range r.IntN(3) {
		x.Labels = append(x.Labels, api.Label{Name: "b" + string(rune('a'+i)), Value: strconv.Itoa(r.IntN(1000))})
	}
	return x
}

// bent: b with a few bytes changed, put in, or taken out.
func bent(r *rand.Rand, b []byte) []byte {
	b = bytes.Clone(b)
	for range r.IntN(3) {
		at := r.IntN(len(b))
		switch r.IntN(3) {
		case 0:
			b[at] = []byte{0, 1, 2, 'a', 'b', 128, 129, 255}[r.IntN(8)]
		case 1:
			b = append(b[:at], append([]byte{byte(r.IntN(256))}, b[at:]...)...)
		default:
			b = append(append(b[:at], b[at+1:]...), 'x')
		}
	}
	return b
}

// TestP302OneForm: bytes that are got as an entry are what is put of it.
func TestP302OneForm(t *testing.T) {
	r := rand.New(rand.NewPCG(3, 2))
	good := 0
	for range 100000 {
		b := bent(r, written(random(r)))
		x, e := record.Get(b)
		if e != api.OK {
			wantNoEntry(t, "bent", b)
			continue
		}
		good++
		if !record.Right(x) || !bytes.Equal(written(x), b) {
			t.Fatalf("% x: %v", b, x)
		}
	}
	if good < 10000 {
		t.Error("too few were entries:", good)
	}
}
