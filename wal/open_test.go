package wal_test

import (
	"fmt"
	"math"
	"slices"
	"strings"
	"testing"

	"icehouse/api"
	"icehouse/simdisk"
	"icehouse/wal"
)

// P1202

// name: of the segment with that number.
func name(n int) string { return fmt.Sprintf("wal-%010d", n) }

func wantOpen(t *testing.T, what string, d *simdisk.Disk, size, most int, want api.Errno) {
	t.Helper()
	w, l, e := wal.Open(d, size, most)
	if e != want || (w != nil) != (e == api.OK) || e != api.OK && len(l) > 0 {
		t.Errorf("Open of %s, %d, %d: %v %s %d, want %d", what, size, most, w != nil, seqs(l), e, want)
	}
}

func TestP1202Numbers(t *testing.T) {
	for _, c := range []struct {
		size, most int
		want       api.Errno
	}{
		{0, 2, api.ErrArg}, {1, 2, api.OK}, {api.MaxBytes, 2, api.OK}, {api.MaxBytes + 1, 2, api.ErrArg},
		{9, 1, api.ErrArg}, {9, 2, api.OK}, {9, 100, api.OK}, {9, 101, api.ErrArg},
		{-1, 2, api.ErrArg}, {math.MinInt, 2, api.ErrArg}, {math.MaxInt, 2, api.ErrArg},
		{9, 0, api.ErrArg}, {9, -2, api.ErrArg}, {9, math.MinInt, api.ErrArg}, {9, math.MaxInt, api.ErrArg},
		{1, 100, api.OK}, {api.MaxBytes, 100, api.OK}, {0, 1, api.ErrArg},
	} {
		wantOpen(t, "a disk", disk(t, 100), c.size, c.most, c.want)
		wantOpen(t, "no disk", nil, c.size, c.most, api.ErrArg)
		wantOpen(t, "a disk that nobody made", &simdisk.Disk{}, c.size, c.most, api.ErrArg)
		off := disk(t, 100)
		off.Cut(0)
		off.SyncDir()
		if c.want == api.OK {
			c.want = api.ErrPower
		}
		wantOpen(t, "a disk without power", off, c.size, c.most, c.want)
	}
}

func TestP1202Power(t *testing.T) {
	d := laid(t, file{name(1), frame(run(1, 2))})
	d.Cut(0)
	wantE(t, "SyncDir", d.SyncDir(), api.ErrPower)
	for range 2 {
		wantOpen(t, "a disk without power", d, 9, 2, api.ErrPower)
	}
	d.Crash(nil)
	open(t, d, 9, 2, "1 2")
}

func TestP1202Empty(t *testing.T) {
	w := open(t, disk(t, 9), 9, 2, "")
	wantLooks(t, "of an empty disk", w, 0, 0)
	w = open(t, laid(t, file{name(1), ""}, file{name(2), "x"}), 9, 2, "")
	wantLooks(t, "of segments without a batch", w, 2, 0)
}

// TestP1202Whole: entries come back as they were handed in, with all their fields.
func TestP1202Whole(t *testing.T) {
	first, second := runOf(7, 9, 1), runOf(10, 25, 2)
	_, l, e := wal.Open(laid(t, file{name(3), frame(first) + frame(second)}), 9, 2)
	if want := told(append(first, second...)); e != api.OK || told(l) != want {
		t.Errorf("%s %d, want %s", told(l), e, want)
	}
}

// TestP1202Names: just what is named as a segment is one; what else is there stays as it is.
func TestP1202Names(t *testing.T) {
	text := frame(run(50, 52))
	others := []string{
		"wal-000000001", "wal-00000000001", "wal-000000000a", "wal-+000000001", "wal--000000001", "wal-0_00000001",
		"wal-0000000.01", "wal-0x00000001", "wal-", "wal", "wal_0000000001", "Wal-0000000001", "xwal-0000000001",
		"al-0000000001", "wal-0000000001.tmp", "wal-0000000001x", "wal-x0000000001", "-0000000001", "0000000001",
		"wal-wal-0000000001", "wal-99999999999", "wal-18446744073709551617", "manifest", "manifest.tmp", "seg-0000000000001", "~", "!",
	}
	var files []file
	for _, other := range others {
		files = append(files, file{other, text})
	}
	w := open(t, laid(t, files...), 9, 2, "")
	wantLooks(t, "of other files", w, 0, 0)

	d := laid(t, append(files, file{name(2), frame(run(3, 4))}, file{name(0), frame(run(1, 2))})...)
	w = open(t, d, 1, 100, "1 2 3 4")
	wantLooks(t, "of two segments", w, 2, 4)
	mustAppend(t, w, run(5, 6))
	wantE(t, "Truncate", w.Truncate(api.MaxSeq), api.OK)
	wantLooks(t, "without segments", w, 0, 6)
	for _, other := range others {
		if b, e := d.Read(other); e != api.OK || string(b) != text {
			t.Errorf("%s: %q %d", other, b, e)
		}
	}
	if len(d.List()) != len(others) {
		t.Error(d.List())
	}
}

// TestP1202Order: by numbers, whatever gaps there are, not by what they hold.
func TestP1202Order(t *testing.T) {
	for _, c := range []struct {
		files []file
		want  string
	}{
		{[]file{{name(1), frame(run(1, 2))}, {name(2), frame(run(3, 4))}}, "1 2 3 4"},
		{[]file{{name(12), frame(run(1, 2))}, {name(9), frame(run(3, 4))}}, "3 4 1 2"},
		{[]file{{name(100), frame(run(7, 7))}, {name(20), frame(run(8, 8))}, {name(3), frame(run(9, 9))}}, "9 8 7"},
		{[]file{{name(0), frame(run(5, 6)) + frame(run(1, 2))}, {name(7), ""}, {name(9999999998), frame(run(3, 4))}}, "5 6 1 2 3 4"},
		{[]file{{name(9999999999), frame(run(1, 1))}, {name(1000000000), frame(run(2, 2))}, {name(999999999), frame(run(3, 3))}}, "3 2 1"},
		// What stands behind something else in a segment is none of it; the next segment is told all the same.
		{[]file{{name(4), frame(run(1, 2)) + "x" + frame(run(3, 4))}, {name(6), frame(run(5, 5))}}, "1 2 5"},
		{[]file{{name(4), framed(2, "") + frame(run(3, 4))}, {name(6), frame(run(5, 5))}}, "5"},
	} {
		w := open(t, laid(t, c.files...), 9, 2, c.want)
		if w.Segments() != len(c.files) {
			t.Errorf("%s: %d segments", c.want, w.Segments())
		}
	}
}

// TestP1202Firsts: of entries with one Seq the first one alone.
func TestP1202Firsts(t *testing.T) {
	d := laid(t,
		file{name(2), frame(runOf(2, 4, 1)) + frame(runOf(3, 5, 2))},
		file{name(3), frame(runOf(5, 6, 3)) + frame(runOf(1, 2, 4)) + frame(runOf(1, 7, 5))},
		file{name(9), frame(runOf(7, 8, 6))})
	w, l, e := wal.Open(d, 9, 2)
	want := []api.Entry{entry(2, 1), entry(3, 1), entry(4, 1), entry(5, 2), entry(6, 3), entry(1, 4), entry(7, 5), entry(8, 6)}
	if e != api.OK || told(l) != told(want) {
		t.Errorf("%s %d, want %s", told(l), e, told(want))
	}
	wantLooks(t, "of many with one Seq", w, 3, 8)
	// The greatest Seq needs not be the last one told.
	w = open(t, laid(t, file{name(1), frame(run(8, 9)) + frame(run(1, 2))}, file{name(2), frame(run(4, 4))}), 9, 2, "8 9 1 2 4")
	wantLooks(t, "of what is not rising", w, 2, 9)
}

// unsure: a disk with two segments and another file, each with a piece that is not sure, and a name that is not.
func unsure(t *testing.T) *simdisk.Disk {
	d := laid(t, file{name(1), frame(run(1, 1))}, file{name(5), frame(run(2, 2))}, file{"other", "o"})
	for _, c := range []file{{name(1), frame(run(3, 3))}, {name(5), frame(run(4, 4))}, {"other", "x"}} {
		wantE(t, "Append", d.Append(c.name, []byte(c.text)), api.OK)
	}
	wantE(t, "Create", d.Create(name(7)), api.OK)
	wantE(t, "Append", d.Append(name(7), []byte(frame(run(5, 5)))), api.OK)
	return d
}

// TestP1202Sure: what is told is sure, whatever happens then.
func TestP1202Sure(t *testing.T) {
	d := unsure(t)
	open(t, d, 9, 2, "1 3 2 4 5")
	d.Crash(nil)
	open(t, d, 9, 2, "1 3 2 4 5")
	if b, _ := d.Read("other"); string(b) != "o" {
		t.Errorf("another file was synced: %q", b)
	}
}

// TestP1202NoSegment: where there is none nothing is synced.
func TestP1202NoSegment(t *testing.T) {
	d := disk(t, 99)
	wantE(t, "Create", d.Create("other"), api.OK)
	d.Fail(1, false)
	open(t, d, 9, 2, "")
	wantE(t, "the failure was used up", d.SyncDir(), api.ErrFault)
	d.Crash(nil)
	if len(d.List()) > 0 {
		t.Error("the names were synced", d.List())
	}
}

// TestP1202Errors: at each operation: the segments by rising numbers, then the names.
func TestP1202Errors(t *testing.T) {
	sure := func(k int) string { // what is there when k operations were done, and a crash kept nothing
		want := [][]int{{1, 2}, {1, 3, 2}, {1, 3, 2, 4}, {1, 3, 2, 4}, {1, 3, 2, 4, 5}}[k]
		return strings.Trim(fmt.Sprint(want), "[]")
	}
	for k := range 4 {
		for _, done := range []bool{false, true} {
			d := unsure(t)
			d.Fail(k+1, done)
			wantOpen(t, "a disk that fails", d, 9, 2, api.ErrFault)
			d.Crash(nil)
			n := k
			if done {
				n++
			}
			open(t, d, 9, 2, sure(n))
		}
		d := unsure(t)
		d.Cut(k)
		wantOpen(t, "a disk whose power goes", d, 9, 2, api.ErrPower)
		d.Crash(nil)
		open(t, d, 9, 2, sure(k))

		d = unsure(t)
		d.Fail(k+1, false)
		wantOpen(t, "a disk that fails", d, 9, 2, api.ErrFault)
		open(t, d, 9, 2, "1 3 2 4 5") // the next one goes well
	}
	d := unsure(t)
	d.Fail(5, false)
	d.Cut(4)
	open(t, d, 9, 2, "1 3 2 4 5")
	wantE(t, "the fifth operation", d.SyncDir(), api.ErrPower)
}

// TestP1202Wrong: an Open that is refused does nothing to the disk.
func TestP1202Wrong(t *testing.T) {
	d := unsure(t)
	before := texts(t, d)
	d.Fail(1, false)
	for _, c := range [][2]int{{0, 2}, {api.MaxBytes + 1, 2}, {9, 1}, {9, 101}} {
		wantOpen(t, "a disk", d, c[0], c[1], api.ErrArg)
	}
	wantE(t, "the failure was used up", d.SyncDir(), api.ErrFault)
	if !slices.Equal(texts(t, d), before) {
		t.Error(texts(t, d))
	}
}

// TestP1202More: a disk may have more segments than most; none is made then.
func TestP1202More(t *testing.T) {
	var files []file
	for n := range 5 {
		files = append(files, file{name(n), frame(run(n+1, n+1))})
	}
	w := open(t, laid(t, files...), 9, 2, "1 2 3 4 5")
	wantLooks(t, "of five", w, 5, 5)
	wantE(t, "Append", w.Append(run(6, 6)), api.ErrBusy)
	wantLooks(t, "of five", w, 5, 5)
	wantE(t, "Truncate", w.Truncate(3), api.OK)
	wantE(t, "Append", w.Append(run(6, 6)), api.ErrBusy)
	wantE(t, "Truncate", w.Truncate(4), api.OK)
	mustAppend(t, w, run(6, 6))
	wantLooks(t, "of two", w, 2, 6)
}
