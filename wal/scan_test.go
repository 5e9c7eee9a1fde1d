package wal_test

import (
	"bytes"
	"math/rand/v2"
	"slices"
	"strings"
	"testing"

	"icehouse/api"
	"icehouse/codec"
	"icehouse/record"
	"icehouse/wal"
)

// P1201: Scan

// three: batches, and where each of their frames ends.
func three() (batches [][]api.Entry, text string, ends []int) {
	batches = [][]api.Entry{run(3, 5), run(1, 1), runOf(5, 20, 1)}
	for _, l := range batches {
		text += frame(l)
		ends = append(ends, len(text))
	}
	return batches, text, ends
}

// whole: the batches whose frames end at n or ahead of it.
func whole(batches [][]api.Entry, ends []int, n int) [][]api.Entry {
	var out [][]api.Entry
	for i, end := range ends {
		if end <= n {
			out = append(out, batches[i])
		}
	}
	return out
}

func wantScan(t *testing.T, what, text string, want [][]api.Entry) {
	t.Helper()
	if got := wal.Scan([]byte(text)); toldBatches(got) != toldBatches(want) || len(got) != len(want) {
		t.Errorf("Scan of %s: %s, want %s", what, toldBatches(got), toldBatches(want))
	}
}

func TestP1201ScanWhole(t *testing.T) {
	if len(wal.Scan(nil)) > 0 || len(wal.Scan([]byte{})) > 0 {
		t.Error("Scan of no bytes told something")
	}
	batches, text, ends := three()
	for i, end := range ends {
		wantScan(t, "whole batches", text[:end], batches[:i+1])
	}
	most := []api.Entry{}
	for seq := api.MaxSeq - api.MaxBatch; seq < api.MaxSeq; seq++ {
		x := entry(seq, 0)
		x.Line = strings.Repeat("\xff", api.MaxLine)
		most = append(most, x)
	}
	wantScan(t, "the greatest batch", frame(most)+text, append([][]api.Entry{most}, batches...))
	same := frame(run(1, 2))
	wantScan(t, "one batch again and again", strings.Repeat(same, 50), slices.Repeat([][]api.Entry{run(1, 2)}, 50))
}

func TestP1201ScanCut(t *testing.T) {
	batches, text, ends := three()
	for n := range len(text) + 1 {
		wantScan(t, "a cut segment", text[:n], whole(batches, ends, n))
		// Nothing is told of what stands behind a batch that is cut.
		if !slices.Contains(ends, n) && n > 0 {
			wantScan(t, "a hole", text[:n]+text, whole(batches, ends, n))
		}
	}
}

func TestP1201ScanChanged(t *testing.T) {
	batches, text, ends := three()
	for i := range len(text) {
		for _, turn := range []byte{1, 2, 16, 128, 255} {
			b := []byte(text)
			b[i] ^= turn
			wantScan(t, "a changed segment", string(b), whole(batches, ends, i))
		}
	}
}

func TestP1201ScanZeros(t *testing.T) {
	batches, text, ends := three()
	for i, end := range ends {
		zeros := strings.Repeat("\x00", 40)
		wantScan(t, "zeros", text[:end]+zeros+text, batches[:i+1])
	}
	wantScan(t, "zeros alone", strings.Repeat("\x00", 100), nil)
	wantScan(t, "something else ahead", "x"+text, nil)
}

func TestP1201ScanKinds(t *testing.T) {
	batches, text, ends := three()
	in, _ := record.PutBatch(run(1, 2))
	for _, kind := range []int{0, 2, 3, 4, 9, 128, 255} {
		for _, other := range []string{framed(kind, string(in)), framed(kind, ""), framed(kind, "x")} {
			for i, end := range ends {
				wantScan(t, "another kind between", text[:end]+other+text[end:], batches[:i+1])
			}
			wantScan(t, "another kind ahead", other+text, nil)
		}
	}
}

func TestP1201ScanNoBatch(t *testing.T) {
	batches, text, ends := three()
	good, _ := record.PutBatch(run(1, 2))
	one, _ := record.Put(entry(1, 0))
	three, _ := record.Put(entry(3, 0))
	inText := func(b []byte) string {
		s, _ := codec.Text(string(b))
		return string(s)
	}
	zero := entry(1, 0)
	zero.Seq = 0
	for _, in := range []string{
		"", "x", "\x00", "\x01", string(one),
		string(good) + "\x00", string(good[:len(good)-1]), string(good) + string(good),
		"\x02" + inText(one) + inText(three), "\x02" + inText(one) + inText(one), "\x02" + inText(three) + inText(one),
		"\x01" + inText(one) + inText(three), "\x81\x00" + inText(one),
		"\x01" + inText(one[:len(one)-1]), "\x11" + strings.Repeat(inText(one), 17), text,
	} {
		for i, end := range ends {
			wantScan(t, "no batch between", text[:end]+framed(1, in)+text[end:], batches[:i+1])
		}
		wantScan(t, "no batch ahead", framed(1, in)+text, nil)
	}
}

// TestP1201ScanAny: of any bytes what is told is written as those at their beginning.
func TestP1201ScanAny(t *testing.T) {
	r := rand.New(rand.NewPCG(12, 1))
	some := 0
	for range 5000 {
		var b []byte
		for range r.IntN(6) {
			seq, kind := 1+r.IntN(9), 1
			if r.IntN(10) == 0 {
				kind = r.IntN(256)
			}
			in, _ := record.PutBatch(run(seq, seq+r.IntN(4)))
			b = append(b, framed(kind, string(in))...)
		}
		for range r.IntN(3) {
			if len(b) > 0 {
				b[r.IntN(len(b))] = byte(r.IntN(256))
			}
		}
		b = b[:len(b)-min(len(b), r.IntN(3)*r.IntN(30))]
		got, again := wal.Scan(b), wal.Scan(b)
		text := ""
		for _, l := range got {
			text += frame(l)
		}
		if !strings.HasPrefix(string(b), text) || toldBatches(got) != toldBatches(again) || toldBatches(got) != toldBatches(scan(b)) {
			t.Fatalf("Scan(%q): %s", b, toldBatches(got))
		}
		some += len(got)
	}
	if some < 1000 {
		t.Error(some)
	}
}

// TestP1201ScanIsPure: bytes are not changed, nor the room behind them; what was answered is new.
func TestP1201ScanIsPure(t *testing.T) {
	batches, text, ends := three()
	for _, n := range append(ends, 0, 5, ends[0]+7) {
		room := append([]byte(text), bytes.Repeat([]byte("r"), 50)...)
		want := string(room)
		got := wal.Scan(room[:n])
		if string(room) != want {
			t.Fatal("the bytes were changed")
		}
		for i := range room {
			room[i] = '!'
		}
		if toldBatches(got) != toldBatches(whole(batches, ends, n)) {
			t.Error("what was told changed with the bytes")
		}
	}
	got, stays := wal.Scan([]byte(text)), wal.Scan([]byte(text))
	for i := range got {
		// Whatever is done to one list, the others stay.
		before := toldBatches(got[i+1:])
		spoil(got[i])
		if toldBatches(got[i+1:]) != before {
			t.Error("two lists of an answer share something")
		}
	}
	if toldBatches(stays) != toldBatches(batches) || toldBatches(wal.Scan([]byte(text))) != toldBatches(batches) {
		t.Error("two answers share something")
	}
	lists := wal.Scan([]byte(text))
	for i := range lists[:cap(lists)] {
		lists[:cap(lists)][i] = nil
	}
	wantScan(t, "a segment", text, batches)
}

// spoil: all that lies in the entries is overwritten, the room behind it too;
// of each entry its labels ahead of it itself.
func spoil(l []api.Entry) {
	l = l[:cap(l)]
	for i := range l {
		for j := range l[i].Labels[:cap(l[i].Labels)] {
			l[i].Labels[:cap(l[i].Labels)][j] = api.Label{Name: "spoilt", Value: "spoilt"}
		}
	}
	for i := range l {
		l[i] = api.Entry{Seq: -1, Line: "spoilt"}
	}
}
