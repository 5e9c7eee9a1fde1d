package label_test

import (
	"math/rand/v2"
	"slices"
	"strings"
	"testing"

	"icehouse/api"
	"icehouse/label"
)

// written: the bytes of labels, whether they may be or not (texts of less than 16384 bytes).
func written(l []api.Label) []byte {
	number := func(n int) []byte {
		if n < 128 {
			return []byte{byte(n)}
		}
		return []byte{byte(n%128) + 128, byte(n / 128)}
	}
	b := number(len(l))
	for _, x := range l {
		b = append(append(b, number(len(x.Name))...), x.Name...)
		b = append(append(b, number(len(x.Value))...), x.Value...)
	}
	return b
}

// P204

func TestP204Bytes(t *testing.T) {
	b, e := label.Bytes(of("a", "x"))
	if e != api.OK || string(b) != "\x01\x01a\x01x" {
		t.Errorf("% x %d", b, e)
	}
	b, e = label.Bytes(of("a", "x", "bc", "\u00e9"))
	if e != api.OK || string(b) != "\x02\x01a\x01x\x02bc\x02\xc3\xa9" {
		t.Errorf("% x %d", b, e)
	}
	for _, l := range right() {
		if b, e := label.Bytes(l); e != api.OK || !slices.Equal(b, written(l)) {
			t.Errorf("%q: % x %d", l, b, e)
		}
	}
	// A value of 128 bytes is the one text whose length has two bytes.
	b, e = label.Bytes(of("a", strings.Repeat("x", 128)))
	if e != api.OK || string(b) != "\x01\x01a\x80\x01"+strings.Repeat("x", 128) {
		t.Errorf("% x %d", b, e)
	}
	for _, l := range append(unsorted(), wrong()...) {
		if b, e := label.Bytes(l); e != api.ErrLabel || len(b) != 0 {
			t.Errorf("%q: % x %d", l, b, e)
		}
	}
}

func TestP204Read(t *testing.T) {
	l, e := label.Read([]byte("\x02\x01a\x01x\x02bc\x02\xc3\xa9"))
	wantLabels(t, "Read", l, e, of("a", "x", "bc", "\u00e9"), api.OK)
	for _, want := range right() {
		b := written(want)
		l, e := label.Read(b)
		wantLabels(t, "Read", l, e, want, api.OK)
		for n := range b {
			l, e := label.Read(b[:n])
			wantLabels(t, "Read of what is cut off", l, e, nil, api.ErrForm)
		}
		for c := range 256 {
			l, e := label.Read(append(slices.Clone(b), byte(c)))
			wantLabels(t, "Read with more behind", l, e, nil, api.ErrForm)
		}
		l, e = label.Read(append(slices.Clone(b), b...))
		wantLabels(t, "Read of twice the same", l, e, nil, api.ErrForm)
	}
	// Written well, but they may not be.
	for _, bad := range append(unsorted(), wrong()...) {
		l, e := label.Read(written(bad))
		wantLabels(t, "Read of what may not be", l, e, nil, api.ErrForm)
	}
}

func TestP204ReadNone(t *testing.T) {
	for _, s := range []string{
		"", "\x00", "\x01", "\x01\x01", "\x01\x01a", "\x01\x01a\x01", "\x01\x01a\x00", "\x01\x00\x01x",
		// Fewer or more than the number says.
		"\x00\x01a\x01x", "\x02\x01a\x01x", "\x01\x01a\x01x\x01b\x01x",
		// Numbers that are not written as numbers are.
		"\x81\x00\x01a\x01x", "\x01\x81\x00a\x01x", "\x01\x01a\x81\x00x",
		// Huge numbers.
		"\xff\xff\xff\xff\xff\xff\xff\x7f", "\xff\xff\xff\xff\xff\xff\xff\x7f\x01a\x01x", "\xff\xff\xff\xff\xff\xff\xff\xff\x01",
		"\x01\xff\xff\xff\xff\xff\xff\xff\x7fa\x01x", "\x01\x01a\xff\xff\xff\xff\xff\xff\xff\x7fx",
		"\x80", "\xff",
	} {
		l, e := label.Read([]byte(s))
		wantLabels(t, s, l, e, nil, api.ErrForm)
	}
	l, e := label.Read(make([]byte, 1<<20))
	wantLabels(t, "many zeros", l, e, nil, api.ErrForm)
}

// TestP204OneForm: bytes that are read as labels are what is written of them.
func TestP204OneForm(t *testing.T) {
	r := rand.New(rand.NewPCG(2, 9))
	good := 0
	for range 100000 {
		b := written(random(r)[:1])
		if r.IntN(2) == 0 {
			b = written(random(r))
		}
		for range r.IntN(3) {
			at := r.IntN(len(b))
			switch r.IntN(3) {
			case 0:
				b[at] = []byte{0, 1, 2, 'a', 'b', 128, 129, 255}[r.IntN(8)]
			case 1:
				b = slices.Insert(b, at, byte(r.IntN(256)))
			default:
				b = append(slices.Delete(b, at, at+1), 'x')
			}
		}
		l, e := label.Read(b)
		if e == api.OK {
			good++
			if !slices.Equal(b, written(l)) || !label.Right(l) {
				t.Fatalf("% x: %q", b, l)
			}
			continue
		}
		wantLabels(t, "bytes", l, e, nil, api.ErrForm)
	}
	if good < 10000 {
		t.Error("too few were labels:", good)
	}
}
