package record_test

import (
	"bytes"
	"math/rand/v2"
	"reflect"
	"slices"
	"strconv"
	"testing"

	"icehouse/api"
	"icehouse/record"
)

// run: n entries from that number on, each with the next one.
func run(seq, n int) []api.Entry {
	l := []api.Entry{}
	for i := range n {
		l = append(l, entry(seq+i, 100-i, strconv.Itoa(i)))
	}
	return l
}

// writtenBatch: the bytes of a batch, whether it may be or not.
func writtenBatch(l []api.Entry) []byte {
	b := number(len(l))
	for _, x := range l {
		b = append(b, text(string(written(x)))...)
	}
	return b
}

// rightBatches: batches that may be.
func rightBatches() [][]api.Entry {
	great := run(0, 0)
	for i := range api.MaxBatch {
		great = append(great, largest(9+i))
	}
	l := [][]api.Entry{
		run(1, 1), run(1, 2), run(1, 15), run(1, 16),
		run(120, 16), // some numbers of one byte, some of two
		run(api.MaxSeq-1, 1), run(api.MaxSeq-16, 16),
		{entry(4, 9, "x"), entry(5, 9, "x")},
		{entry(4, 9, "x"), entry(5, 0, "x"), entry(6, 9, "")},
		great,
	}
	for _, x := range rights() {
		l = append(l, []api.Entry{x})
	}
	return l
}

// wrongBatches: batches that may not be, of entries that have bytes.
func wrongBatches() [][]api.Entry {
	l := [][]api.Entry{
		nil, {},
		run(1, 17), run(1, 1000),
		run(api.MaxSeq-1, 2), run(api.MaxSeq-15, 16), run(0, 2), run(0, 16),
		{entry(4, 1, ""), entry(4, 1, "")},
		{entry(4, 1, ""), entry(3, 1, "")},
		{entry(4, 1, ""), entry(6, 1, "")},
		{entry(4, 1, ""), entry(5, 1, ""), entry(5, 1, "")},
		{entry(4, 1, ""), entry(5, 1, ""), entry(7, 1, "")},
		{entry(4, 1, ""), entry(5, 1, ""), entry(4, 1, "")},
		append(run(1, 15), entry(17, 1, "")),
	}
	for _, x := range wrongs() {
		before, behind := entry(x.Seq-1, 1, ""), entry(x.Seq+1, 1, "")
		l = append(l, []api.Entry{x}, []api.Entry{x, behind})
		if x.Seq > 1 {
			l = append(l, []api.Entry{before, x}, []api.Entry{before, x, behind})
		}
	}
	return l
}

func wantBatch(t *testing.T, what string, b []byte, want []api.Entry) {
	t.Helper()
	if l, e := record.GetBatch(b); e != api.OK || !reflect.DeepEqual(l, want) {
		t.Errorf("%s: GetBatch(% x): %v %d, want %v", what, b[:min(len(b), 40)], l, e, want)
	}
}

func wantNoBatch(t *testing.T, what string, b []byte) {
	t.Helper()
	if l, e := record.GetBatch(b); e != api.ErrForm || len(l) != 0 {
		t.Errorf("%s: GetBatch(% x): %v %d, want ErrForm and nothing", what, b[:min(len(b), 40)], l, e)
	}
}

// P302

func TestP302PutBatch(t *testing.T) {
	b, e := record.PutBatch([]api.Entry{entry(1, 2, ""), entry(2, 0, "u")})
	wantBytes(t, "two", b, e, []byte{
		2,
		9, 1, 2, 5, 1, 1, 97, 1, 120, 0,
		10, 2, 0, 5, 1, 1, 97, 1, 120, 1, 'u',
	}, api.OK)
	for _, l := range rightBatches() {
		b, e := record.PutBatch(l)
		wantBytes(t, "PutBatch", b, e, writtenBatch(l), api.OK)
	}
	for _, l := range wrongBatches() {
		b, e := record.PutBatch(l)
		wantBytes(t, "PutBatch of what may not be", b, e, nil, api.ErrArg)
	}
	for _, x := range beyond() {
		b, e := record.PutBatch([]api.Entry{x})
		wantBytes(t, "PutBatch of what has no bytes", b, e, nil, api.ErrArg)
		b, e = record.PutBatch([]api.Entry{entry(1, 1, ""), x})
		wantBytes(t, "PutBatch of what has no bytes", b, e, nil, api.ErrArg)
	}
	b, e = record.PutBatch(slices.Repeat(run(1, 16), 1<<12))
	wantBytes(t, "PutBatch of a long list", b, e, nil, api.ErrArg)
}

func TestP302GetBatch(t *testing.T) {
	for _, l := range rightBatches() {
		b := writtenBatch(l)
		wantBatch(t, "GetBatch", b, l)
		for n := 0; n < len(b); n += 1 + len(b)/2000 {
			wantNoBatch(t, "cut off", b[:n])
		}
		wantNoBatch(t, "the last byte cut off", b[:len(b)-1])
		for c := range 256 {
			wantNoBatch(t, "more behind", append(bytes.Clone(b), byte(c)))
		}
		wantNoBatch(t, "twice the same", append(bytes.Clone(b), b...))
	}
	// Written well, but they may not be.
	for _, l := range wrongBatches() {
		wantNoBatch(t, "what may not be", writtenBatch(l))
	}
}

func TestP302GetBatchNone(t *testing.T) {
	one := string(written(entry(1, 2, "")))
	two := string(written(entry(2, 2, "")))
	for _, s := range []string{
		"", "\x00", "\x01", "\x10", "\x80", "\xff", "\x01\x00", "\x01\x09",
		// An entry alone is no batch, nor is it one that is no text.
		one, "\x01" + one,
		// Fewer or more than the number says.
		"\x00\x09" + one, "\x02\x09" + one, "\x01\x09" + one + "\x09" + two,
		// An entry that is cut off, that has more behind it, or ends too late.
		"\x01\x08" + one[:8], "\x01\x08" + one, "\x01\x0a" + one + "\x00", "\x01\x0a" + one,
		"\x02\x12" + one + two,
		// Numbers that are not written as numbers are.
		"\x81\x00\x09" + one, "\x01\x89\x00" + one, "\x01\x0a\x81\x00" + one[1:],
		// Huge ones.
		"\xff\xff\xff\xff\xff\xff\xff\x7f", "\xff\xff\xff\xff\xff\xff\xff\x7f\x09" + one,
		"\xff\xff\xff\xff\xff\xff\xff\xff\x01", "\x01\xff\xff\xff\xff\xff\xff\xff\x7f" + one,
		"\x01\x81\x80\x04" + one,
	} {
		wantNoBatch(t, strconv.Quote(s), []byte(s))
	}
	wantNoBatch(t, "nil", nil)
	wantNoBatch(t, "many zeros", make([]byte, 1<<20))
	wantBatch(t, "one", []byte("\x01\x09"+one), []api.Entry{entry(1, 2, "")})
}

// TestP302OneFormOfABatch: bytes that are got as a batch are what is put of it.
func TestP302OneFormOfABatch(t *testing.T) {
	r := rand.New(rand.NewPCG(3, 3))
	good := 0
	for range 50000 {
		b := bent(r, writtenBatch(run(1+r.IntN(300), 1+r.IntN(4))))
		l, e := record.GetBatch(b)
		if e != api.OK {
			wantNoBatch(t, "bent", b)
			continue
		}
		good++
		if again, e := record.PutBatch(l); e != api.OK || !bytes.Equal(again, b) || !bytes.Equal(writtenBatch(l), b) {
			t.Fatalf("% x: %v", b, l)
		}
	}
	if good < 10000 {
		t.Error("too few were batches:", good)
	}
}

// P304

func TestP304ThereAndBack(t *testing.T) {
	r := rand.New(rand.NewPCG(3, 4))
	there := func(x api.Entry) {
		b, e := record.Put(x)
		if e != api.OK {
			t.Fatalf("%v: %d", x, e)
		}
		wantEntry(t, "there and back", b, x)
		if record.Size(x) != len(b) {
			t.Fatalf("%v: %d bytes, not %d", x, len(b), record.Size(x))
		}
	}
	for _, x := range rights() {
		there(x)
	}
	for range 20000 {
		there(random(r))
	}
	// Each byte comes back in a line.
	for c := range 256 {
		there(entry(1, 1, string([]byte{byte(c)})))
	}
}

func TestP304BatchThereAndBack(t *testing.T) {
	r := rand.New(rand.NewPCG(3, 5))
	there := func(l []api.Entry) {
		b, e := record.PutBatch(l)
		if e != api.OK {
			t.Fatalf("%v: %d", l, e)
		}
		wantBatch(t, "there and back", b, l)
	}
	for _, l := range rightBatches() {
		there(l)
	}
	for range 3000 {
		l := []api.Entry{}
		seq := 1 + r.IntN(api.MaxSeq-api.MaxBatch)
		for i := range 1 + r.IntN(api.MaxBatch) {
			x := random(r)
			x.Seq = seq + i
			l = append(l, x)
		}
		there(l)
	}
}
