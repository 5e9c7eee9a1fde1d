package wal_test

import (
	"strconv"
	"strings"
	"testing"

	"icehouse/api"
	"icehouse/simdisk"
)

// P1203

// TestP1203NoBatch: what may be no batch is refused, ahead of all else.
func TestP1203NoBatch(t *testing.T) {
	with := func(change func(x *api.Entry)) []api.Entry {
		l := run(5, 7)
		change(&l[1])
		return l
	}
	wrong := [][]api.Entry{
		nil, {}, run(1, api.MaxBatch+1), {entry(1, 0), entry(3, 0)}, {entry(1, 0), entry(1, 0)}, {entry(2, 0), entry(1, 0)},
		run(0, 1), run(-1, -1), run(api.MaxSeq-1, api.MaxSeq), run(api.MaxSeq, api.MaxSeq),
		with(func(x *api.Entry) { x.Time = -1 }), with(func(x *api.Entry) { x.Time = api.MaxTime }),
		with(func(x *api.Entry) { x.Labels = nil }), with(func(x *api.Entry) { x.Labels[0].Name = "1" }),
		with(func(x *api.Entry) { x.Labels[0].Name = "c" }), with(func(x *api.Entry) { x.Labels[0].Value = "" }),
		with(func(x *api.Entry) { x.Line = strings.Repeat("x", api.MaxLine+1) }), {{}},
	}
	d := disk(t, api.MaxBytes)
	w := open(t, d, 1, 2, "")
	refused := func(what string) {
		t.Helper()
		segments, last, before := w.Segments(), w.Last(), d.List()
		for i, l := range wrong {
			wantE(t, what+" "+strconv.Itoa(i), w.Append(l), api.ErrArg)
			wantLooks(t, what, w, segments, last)
		}
		if len(d.List()) != len(before) {
			t.Error(what, d.List())
		}
	}
	refused("without a segment")
	mustAppend(t, w, run(1, 2))
	refused("with a full one")
	mustAppend(t, w, run(3, 3))
	refused("where no other is made")
	d.Cut(0)
	d.SyncDir()
	refused("without power")
	d.Crash(nil)
	open(t, d, 1, 2, "1 2 3")
}

// TestP1203Edges: the least and the greatest batches that may be.
func TestP1203Edges(t *testing.T) {
	most := run(api.MaxSeq-api.MaxBatch, api.MaxSeq-1)
	for i := range most {
		most[i].Line = strings.Repeat("\xff", api.MaxLine)
		most[i].Time = api.MaxTime - 1
	}
	d := disk(t, api.MaxBytes)
	w := open(t, d, api.MaxBytes, 2, "")
	mustAppend(t, w, most)
	wantLooks(t, "the greatest one", w, 1, api.MaxSeq-1)
	least := []api.Entry{{Seq: 1, Labels: []api.Label{{Name: "a", Value: "x"}}}}
	mustAppend(t, w, least) // numbers needn't rise
	wantLooks(t, "the least one", w, 1, api.MaxSeq-1)
	wantTexts(t, "both", d, frame(most)+frame(least))
}

// TestP1203Segments: a segment is written to while it has fewer than size bytes.
func TestP1203Segments(t *testing.T) {
	one := frame(run(1, 1))
	for _, c := range []struct{ size, each int }{
		{1, 1}, {len(one) - 1, 1}, {len(one), 1}, {len(one) + 1, 2}, {2*len(one) - 1, 2}, {2 * len(one), 2}, {2*len(one) + 1, 3}, {api.MaxBytes, 9},
	} {
		d := disk(t, api.MaxBytes)
		w := open(t, d, c.size, 100, "")
		want := []string{}
		for seq := 1; seq <= 9; seq++ {
			mustAppend(t, w, run(seq, seq))
			if (seq-1)%c.each == 0 {
				want = append(want, "")
			}
			want[len(want)-1] += frame(run(seq, seq))
			wantLooks(t, "size "+strconv.Itoa(c.size), w, len(want), seq)
			wantTexts(t, "size "+strconv.Itoa(c.size), d, want...)
		}
		d.Crash(nil)
		open(t, d, c.size, 100, "1 2 3 4 5 6 7 8 9")
	}
}

// TestP1203NotItsOwn: a log writes to no segment that Open found, however short it is.
func TestP1203NotItsOwn(t *testing.T) {
	d := laid(t, file{name(1), frame(run(1, 2))}, file{name(7), ""})
	w := open(t, d, api.MaxBytes, 9, "1 2")
	mustAppend(t, w, run(3, 3))
	mustAppend(t, w, run(4, 4))
	wantLooks(t, "one is made", w, 3, 4)
	wantTexts(t, "one is made", d, frame(run(1, 2)), "", frame(run(3, 3))+frame(run(4, 4)))
	w = open(t, d, api.MaxBytes, 9, "1 2 3 4")
	mustAppend(t, w, run(5, 5))
	wantTexts(t, "opened anew", d, frame(run(1, 2)), "", frame(run(3, 3))+frame(run(4, 4)), frame(run(5, 5)))
}

// TestP1203Most: up to most segments, and past it.
func TestP1203Most(t *testing.T) {
	for _, most := range []int{2, 3, 100} {
		d := disk(t, api.MaxBytes)
		w := open(t, d, 1, most, "")
		for seq := 1; seq <= most; seq++ {
			mustAppend(t, w, run(seq, seq))
			wantLooks(t, "up to most", w, seq, seq)
		}
		d.Fail(1, true)
		for range 3 {
			wantE(t, "past it", w.Append(run(most+1, most+2)), api.ErrBusy)
			wantLooks(t, "past it", w, most, most)
		}
		wantE(t, "the failure was used up", d.SyncDir(), api.ErrFault)
		wantE(t, "Truncate", w.Truncate(1), api.OK)
		mustAppend(t, w, run(most+3, most+3))
		wantLooks(t, "one went", w, most, most+3)
		wantE(t, "past it again", w.Append(run(most+4, most+4)), api.ErrBusy)
		wantLooks(t, "past it again", w, most, most+3)
	}
	// Where the last one is not full it is written to.
	w := open(t, disk(t, api.MaxBytes), len(frame(run(1, 1)))+1, 2, "")
	for seq := 1; seq <= 4; seq++ {
		mustAppend(t, w, run(seq, seq))
	}
	wantE(t, "both are full", w.Append(run(5, 5)), api.ErrBusy)
	wantLooks(t, "both are full", w, 2, 4)
}

// TestP1203BusyFirst: ErrBusy is told ahead of what the disk would.
func TestP1203BusyFirst(t *testing.T) {
	d := disk(t, api.MaxBytes)
	w := open(t, d, 1, 2, "")
	mustAppend(t, w, run(1, 1))
	mustAppend(t, w, run(2, 2))
	d.Cut(0)
	wantE(t, "Append", w.Append(run(3, 3)), api.ErrBusy)
	if d.Down() {
		t.Error("an operation was asked")
	}
	d.SyncDir()
	wantE(t, "Append", w.Append(run(3, 3)), api.ErrBusy)
	wantLooks(t, "without power", w, 2, 2)
}

// TestP1203Numbers: where no number is above the greatest one, segments must go first.
func TestP1203Numbers(t *testing.T) {
	d := laid(t, file{name(9999999998), frame(run(1, 1))})
	w := open(t, d, 1, 9, "1")
	mustAppend(t, w, run(2, 2))
	wantE(t, "past all numbers", w.Append(run(3, 3)), api.ErrBusy)
	wantLooks(t, "past all numbers", w, 2, 2)
	wantE(t, "Truncate", w.Truncate(1), api.OK)
	wantE(t, "past all numbers", w.Append(run(3, 3)), api.ErrBusy)
	wantE(t, "Truncate", w.Truncate(2), api.OK)
	mustAppend(t, w, run(3, 3))
	d.Crash(nil)
	open(t, d, 1, 9, "3")
}

// TestP1203Full: a disk that has no room for the batch.
func TestP1203Full(t *testing.T) {
	one, long := frame(run(1, 1)), frame(run(2, 9))
	d := disk(t, len(one)*2+len(long)-1)
	w := open(t, d, api.MaxBytes, 2, "")
	mustAppend(t, w, run(1, 1))
	mustAppend(t, w, run(1, 1))
	for range 3 {
		wantE(t, "a long one", w.Append(run(2, 9)), api.ErrFull)
		wantLooks(t, "a long one", w, 1, 1)
		wantTexts(t, "a long one", d, one+one)
	}
	// The segment is not spoilt, and holds nothing of what had no room.
	mustAppend(t, w, run(3, 3))
	wantLooks(t, "a short one", w, 1, 3)
	wantTexts(t, "a short one", d, one+one+frame(run(3, 3)))
	wantE(t, "Truncate", w.Truncate(3), api.OK)
	wantLooks(t, "all gone", w, 0, 3)
}

// TestP1203FullNew: likewise where a new segment is made: it stays, and is written to.
func TestP1203FullNew(t *testing.T) {
	d := disk(t, len(frame(run(1, 1))))
	w := open(t, d, 1, 2, "")
	for range 3 {
		wantE(t, "a long one", w.Append(run(1, 2)), api.ErrFull)
		wantLooks(t, "a long one", w, 1, 0)
		wantTexts(t, "a long one", d, "")
	}
	mustAppend(t, w, run(1, 1))
	wantLooks(t, "a short one", w, 1, 1)
	wantE(t, "no byte is left", w.Append(run(2, 2)), api.ErrFull)
	wantLooks(t, "no byte is left", w, 2, 1)
	wantTexts(t, "no byte is left", d, frame(run(1, 1)), "")
	wantE(t, "no byte is left", w.Append(run(2, 2)), api.ErrFull)
	wantE(t, "Truncate", w.Truncate(1), api.OK)
	wantLooks(t, "all gone", w, 0, 1)
	mustAppend(t, w, run(2, 2))
	d.Crash(nil)
	open(t, d, 1, 2, "2")
}

// TestP1203Files: a disk that takes no file more.
func TestP1203Files(t *testing.T) {
	d := disk(t, api.MaxBytes)
	for n := range api.MaxFiles {
		wantE(t, "Create", d.Create("other"+strconv.Itoa(n)), api.OK)
	}
	w := open(t, d, 1, 2, "")
	for range 2 {
		wantE(t, "Append", w.Append(run(1, 1)), api.ErrFull)
		wantLooks(t, "no file more", w, 0, 0)
	}
	wantE(t, "Remove", d.Remove("other7"), api.OK)
	mustAppend(t, w, run(1, 1))
	wantE(t, "Append", w.Append(run(2, 2)), api.ErrFull)
	wantLooks(t, "no file more", w, 1, 1)
}

// begun: a log that would write to the segment that it made (old), or must make one; each with 1 to 3 in it.
func begun(t *testing.T, old bool) (d *simdisk.Disk, w *twin) {
	w = twinOf(t, api.MaxBytes)
	size := 1
	if old {
		size = api.MaxBytes
	}
	wantE(t, "Open", w.open(size, 4), api.OK)
	wantE(t, "Append", w.append(run(1, 3)), api.OK)
	return w.d, w
}

// befallen: how things stand behind an Append at whose kth operation something befell it.
type befallen struct {
	segments int
	text     string // of the segment that it would have written to; "-" if there is none
	next     int    // how many segments there are when one more is appended
}

// TestP1203Errors: an error at each operation, done and not done, and the power gone.
func TestP1203Errors(t *testing.T) {
	first, in := frame(run(1, 3)), frame(run(4, 5))
	made := func(text string) befallen { return befallen{2, text, 3} }
	kept := func(text string) befallen { return befallen{1, text, 2} }
	for _, c := range []struct {
		old       bool
		k         int
		not, done befallen
	}{
		{false, 1, befallen{1, "-", 2}, made("")}, // Create
		{false, 2, made(""), made("")},            // SyncDir
		{false, 3, made(""), made(in)},            // Append
		{false, 4, made(in), made(in)},            // Sync
		{true, 1, kept(first), kept(first + in)},  // Append
		{true, 2, kept(first + in), kept(first + in)},
	} {
		for _, done := range []bool{false, true} {
			d, w := begun(t, c.old)
			w.fail(c.k, done)
			wantE(t, "Append", w.append(run(4, 5)), api.ErrFault)
			want := c.not
			if done {
				want = c.done
			}
			what := strconv.FormatBool(c.old) + " " + strconv.Itoa(c.k) + strconv.FormatBool(done)
			wantLooks(t, what, w.w, want.segments, 5)
			wantBehind(t, what, d, c.old, first, want.text)
			wantE(t, "Append", w.append(run(6, 6)), api.OK)
			wantLooks(t, what+", then", w.w, want.next, 6)
			d.Crash(nil)
			w.m.d.Crash(nil)
			wantE(t, "Open", w.open(1, 4), api.OK)
		}
		// Without power it is as where the operation was not done.
		d, w := begun(t, c.old)
		w.cut(c.k - 1)
		wantE(t, "Append", w.append(run(4, 5)), api.ErrPower)
		wantLooks(t, "power "+strconv.Itoa(c.k), w.w, c.not.segments, 5)
		wantE(t, "Append", w.append(run(6, 6)), api.ErrPower)
		wantLooks(t, "power again "+strconv.Itoa(c.k), w.w, c.not.segments, 6)
		w.crash([]bool{true, true, true, true})
		wantBehind(t, "power "+strconv.Itoa(c.k), d, c.old, first, c.not.text)
		wantE(t, "Open", w.open(1, 4), api.OK)
	}
}

// wantBehind: what the disk has: the segment that was there, and the one that was made.
func wantBehind(t *testing.T, what string, d *simdisk.Disk, old bool, first, text string) {
	t.Helper()
	switch {
	case old:
		wantTexts(t, what, d, text)
	case text == "-":
		wantTexts(t, what, d, first)
	default:
		wantTexts(t, what, d, first, text)
	}
}

// TestP1203Spoilt: spoilt segments count, and are not written to, up to most of them.
func TestP1203Spoilt(t *testing.T) {
	d := disk(t, api.MaxBytes)
	w := open(t, d, api.MaxBytes, 3, "")
	for n := 1; n <= 3; n++ {
		d.Fail(4, n%2 == 0) // Sync
		wantE(t, "Append", w.Append(run(n, n)), api.ErrFault)
		wantLooks(t, "one is spoilt", w, n, n)
	}
	wantE(t, "Append", w.Append(run(4, 4)), api.ErrBusy)
	wantLooks(t, "all are spoilt", w, 3, 3)
	wantE(t, "Truncate", w.Truncate(2), api.OK)
	mustAppend(t, w, run(4, 4))
	mustAppend(t, w, run(5, 5))
	wantLooks(t, "one is left", w, 2, 5)
	wantTexts(t, "one is left", d, frame(run(3, 3)), frame(run(4, 4))+frame(run(5, 5)))
}

// TestP1203There: a name that somebody else gave away meanwhile: the error is
// the answer, the segment is there, and spoilt.
func TestP1203There(t *testing.T) {
	d := disk(t, api.MaxBytes)
	w, other := open(t, d, api.MaxBytes, 9, ""), open(t, d, api.MaxBytes, 9, "")
	mustAppend(t, other, run(1, 1))
	wantE(t, "Append", w.Append(run(2, 2)), api.ErrThere)
	wantLooks(t, "there", w, 1, 2)
	mustAppend(t, w, run(3, 3))
	wantLooks(t, "a new one", w, 2, 3)
	wantTexts(t, "a new one", d, frame(run(1, 1)), frame(run(3, 3)))
	// A segment that somebody removed is spoilt, too.
	wantE(t, "Remove", d.Remove(segments(d)[1]), api.OK)
	wantE(t, "Append", w.Append(run(4, 4)), api.ErrNone)
	wantLooks(t, "it is gone", w, 2, 4)
	mustAppend(t, w, run(5, 5))
	wantTexts(t, "one more", d, frame(run(1, 1)), frame(run(5, 5)))
}

// TestP1203Last: the greatest Seq, not that which was asked last.
func TestP1203Last(t *testing.T) {
	d := laid(t, file{name(1), frame(run(10, 12)) + frame(run(3, 4))})
	w := open(t, d, api.MaxBytes, 9, "10 11 12 3 4")
	wantLooks(t, "told", w, 1, 12)
	mustAppend(t, w, run(5, 6))
	wantLooks(t, "a lesser one", w, 2, 12)
	d.Fail(1, false)
	wantE(t, "Append", w.Append(run(7, 7)), api.ErrFault)
	wantLooks(t, "a lesser one that failed", w, 2, 12)
	mustAppend(t, w, run(20, 21))
	wantLooks(t, "a greater one", w, 3, 21)
	d.Fail(1, false)
	wantE(t, "Append", w.Append(run(30, 31)), api.ErrFault)
	wantLooks(t, "a greater one that failed", w, 3, 31)
	wantE(t, "Truncate", w.Truncate(31), api.OK)
	wantLooks(t, "all gone", w, 0, 31)
	d.Crash(nil)
	wantLooks(t, "opened anew", open(t, d, 9, 9, ""), 0, 0)
}
