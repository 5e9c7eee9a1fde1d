package wal_test

import (
	"math"
	"strconv"
	"testing"

	"icehouse/api"
	"icehouse/simdisk"
	"icehouse/wal"
)

// P1204

// rows: a log whose segments it made itself, one a batch, all full. Numbers
// that stand in two batches, and some that do not rise, are among them.
func rows(t *testing.T) (*simdisk.Disk, *wal.Log) {
	t.Helper()
	d := disk(t, api.MaxBytes)
	w := open(t, d, 1, 5, "")
	for _, l := range [][]api.Entry{run(3, 4), run(1, 5), run(2, 3), run(9, 9)} {
		mustAppend(t, w, l)
	}
	wantLooks(t, "four", w, 4, 9)
	return d, w
}

func TestP1204Wrong(t *testing.T) {
	d, w := rows(t)
	for _, seq := range []int{-1, -2, math.MinInt} {
		d.Fail(1, true)
		wantE(t, "Truncate", w.Truncate(seq), api.ErrArg)
		wantLooks(t, "refused", w, 4, 9)
		wantE(t, "the failure was used up", d.SyncDir(), api.ErrFault)
	}
	empty := open(t, disk(t, 9), 1, 2, "")
	wantE(t, "of no segment", empty.Truncate(-1), api.ErrArg)
	d.Cut(0)
	d.SyncDir()
	wantE(t, "without power", w.Truncate(-1), api.ErrArg)
}

// TestP1204Which: from the lowest number on, as long as nothing in it is above seq.
func TestP1204Which(t *testing.T) {
	for _, c := range []struct{ seq, left int }{
		{0, 4}, {1, 4}, {3, 4}, {4, 3}, {5, 1}, {8, 1}, {9, 0}, {10, 0}, {api.MaxSeq, 0}, {math.MaxInt, 0},
	} {
		for _, anew := range []bool{false, true} {
			d, w := rows(t)
			all := texts(t, d)
			if anew {
				w = open(t, d, 1, 5, "3 4 1 2 5 9")
			}
			what := strconv.Itoa(c.seq) + strconv.FormatBool(anew)
			wantE(t, what, w.Truncate(c.seq), api.OK)
			wantLooks(t, what, w, c.left, 9)
			wantTexts(t, what, d, all[4-c.left:]...)
			wantE(t, what, w.Truncate(c.seq), api.OK)
			wantLooks(t, what, w, c.left, 9)
			d.Crash(nil) // it is sure
			wantTexts(t, what, d, all[4-c.left:]...)
		}
	}
}

// TestP1204Lowest: a segment stays while one below it does.
func TestP1204Lowest(t *testing.T) {
	w := open(t, laid(t, file{name(3), frame(run(5, 5))}, file{name(4), frame(run(1, 1))}, file{name(50), ""}), 9, 9, "5 1")
	wantE(t, "Truncate", w.Truncate(4), api.OK)
	wantLooks(t, "the first one stays", w, 3, 5)
	wantE(t, "Truncate", w.Truncate(5), api.OK)
	wantLooks(t, "all go", w, 0, 5)
}

// TestP1204Nothing: segments in which nothing was found go with any seq, as far as they stand lowest.
func TestP1204Nothing(t *testing.T) {
	d := laid(t, file{name(1), ""}, file{name(2), "x" + frame(run(7, 8))}, file{name(3), framed(2, "")}, file{name(4), frame(run(1, 2)) + "x" + frame(run(3, 4))}, file{name(5), ""})
	w := open(t, d, 9, 9, "1 2")
	wantE(t, "Truncate", w.Truncate(0), api.OK)
	wantLooks(t, "three go", w, 2, 2)
	wantE(t, "Truncate", w.Truncate(1), api.OK)
	wantLooks(t, "none goes", w, 2, 2)
	wantE(t, "Truncate", w.Truncate(2), api.OK)
	wantLooks(t, "both go", w, 0, 2)
}

// TestP1204Twice: what Open found, but did not tell, counts, too.
func TestP1204Twice(t *testing.T) {
	w := open(t, laid(t, file{name(1), frame(run(5, 6))}, file{name(2), frame(run(1, 1)) + frame(runOf(6, 6, 1))}), 9, 9, "5 6 1")
	wantE(t, "Truncate", w.Truncate(5), api.OK)
	wantLooks(t, "none goes", w, 2, 6)
	w = open(t, laid(t, file{name(1), frame(run(1, 1))}, file{name(2), frame(runOf(1, 1, 1))}, file{name(3), frame(run(2, 2))}), 9, 9, "1 2")
	wantE(t, "Truncate", w.Truncate(1), api.OK)
	wantLooks(t, "two go", w, 1, 2)
}

// TestP1204Failed: what an Append put in counts, whatever it answered; where it
// came to no segment, or had no room, it does not.
func TestP1204Failed(t *testing.T) {
	for _, c := range []struct {
		k, least int // the failed operation of an Append of 3 and 4; from which seq on its segment goes
	}{{1, 0}, {2, 0}, {3, 4}, {4, 4}} {
		for _, done := range []bool{false, true} {
			d := disk(t, api.MaxBytes)
			w := open(t, d, 1, 5, "")
			d.Fail(c.k, done)
			wantE(t, "Append", w.Append(run(3, 4)), api.ErrFault)
			for seq := range 5 {
				what := strconv.Itoa(c.k) + strconv.FormatBool(done) + strconv.Itoa(seq)
				if c.k == 1 && !done {
					wantLooks(t, what, w, 0, 4)
				} else if seq == c.least {
					wantLooks(t, what+" ahead", w, 1, 4)
				}
				wantE(t, what, w.Truncate(seq), api.OK)
				if seq >= c.least {
					wantLooks(t, what, w, 0, 4)
				}
			}
		}
	}
	d := disk(t, len(frame(run(1, 1))))
	w := open(t, d, 1, 5, "")
	wantE(t, "Append", w.Append(run(3, 4)), api.ErrFull)
	wantE(t, "Truncate", w.Truncate(0), api.OK)
	wantLooks(t, "where there was no room", w, 0, 0)
}

// TestP1204FailedBehind: likewise of one that failed behind others in the same segment.
func TestP1204FailedBehind(t *testing.T) {
	for k := 1; k <= 2; k++ {
		for _, done := range []bool{false, true} {
			d := disk(t, api.MaxBytes)
			w := open(t, d, api.MaxBytes, 5, "")
			mustAppend(t, w, run(1, 2))
			d.Fail(k, done)
			wantE(t, "Append", w.Append(run(3, 4)), api.ErrFault)
			mustAppend(t, w, run(5, 5))
			for _, c := range [][2]int{{2, 2}, {3, 2}, {4, 1}, {5, 0}} {
				wantE(t, "Truncate", w.Truncate(c[0]), api.OK)
				wantLooks(t, "behind "+strconv.Itoa(c[0]), w, c[1], 5)
			}
		}
	}
}

// TestP1204WrittenTo: the segment that is written to goes, too; then a new one is made.
func TestP1204WrittenTo(t *testing.T) {
	d := disk(t, api.MaxBytes)
	w := open(t, d, api.MaxBytes, 2, "")
	mustAppend(t, w, run(1, 2))
	wantE(t, "Truncate", w.Truncate(1), api.OK)
	wantLooks(t, "it stays", w, 1, 2)
	mustAppend(t, w, run(3, 3))
	wantTexts(t, "it stays", d, frame(run(1, 2))+frame(run(3, 3)))
	wantE(t, "Truncate", w.Truncate(3), api.OK)
	wantLooks(t, "it goes", w, 0, 3)
	wantTexts(t, "it goes", d)
	mustAppend(t, w, run(4, 4))
	mustAppend(t, w, run(5, 5))
	wantLooks(t, "a new one", w, 1, 5)
	wantTexts(t, "a new one", d, frame(run(4, 4))+frame(run(5, 5)))
	d.Crash(nil)
	open(t, d, 9, 2, "4 5")
}

// TestP1204NoneGoes: then nothing is synced either.
func TestP1204NoneGoes(t *testing.T) {
	d, w := rows(t)
	d.Cut(0)
	wantE(t, "Truncate", w.Truncate(3), api.OK)
	if d.Down() {
		t.Error("an operation was asked")
	}
	d.SyncDir()
	wantE(t, "without power", w.Truncate(3), api.OK)
	wantE(t, "without power", w.Truncate(4), api.ErrPower)
	wantLooks(t, "without power", w, 4, 9)
	none := open(t, disk(t, 9), 1, 2, "")
	wantE(t, "of no segment", none.Truncate(9), api.OK)
}

// TestP1204Errors: at each operation: three segments go, then the names are synced.
func TestP1204Errors(t *testing.T) {
	for k := 1; k <= 4; k++ {
		for _, done := range []bool{false, true} {
			d, w := rows(t)
			all, what := texts(t, d), strconv.Itoa(k)+strconv.FormatBool(done)
			d.Fail(k, done)
			wantE(t, what, w.Truncate(5), api.ErrFault)
			gone := min(k-1, 3)
			if done {
				gone = min(k, 3)
			}
			wantLooks(t, what, w, 4-gone, 9)
			wantTexts(t, what, d, all[gone:]...)
			mustAppend(t, w, run(10, 10)) // this makes sure what went, too
			wantLooks(t, what, w, 5-gone, 10)
			wantE(t, what, w.Truncate(5), api.OK)
			wantLooks(t, what, w, 2, 10)
			wantTexts(t, what, d, all[3], frame(run(10, 10)))
			d.Crash(nil)
			open(t, d, 9, 9, "9 10")
		}
		d, w := rows(t)
		all, what := texts(t, d), "power "+strconv.Itoa(k)
		d.Cut(k - 1)
		wantE(t, what, w.Truncate(5), api.ErrPower)
		wantLooks(t, what, w, 5-k, 9)
		wantE(t, what, w.Append(run(10, 10)), api.ErrPower)
		d.Crash([]bool{true, true, true, true})
		wantTexts(t, what, d, all[k-1:]...)
	}
}

// TestP1204NotSure: what went before an error came is not sure; the names are not synced then.
func TestP1204NotSure(t *testing.T) {
	for k := 2; k <= 4; k++ {
		d, w := rows(t)
		all := texts(t, d)
		d.Fail(k, false)
		wantE(t, "Truncate", w.Truncate(5), api.ErrFault)
		d.Crash(nil)
		wantTexts(t, "all are back", d, all...)
		open(t, d, 9, 9, "3 4 1 2 5 9")
	}
	d, w := rows(t)
	d.Fail(4, true)
	wantE(t, "Truncate", w.Truncate(5), api.ErrFault)
	d.Crash(nil)
	open(t, d, 9, 9, "9")
}

// TestP1204Room: what went makes room for others.
func TestP1204Room(t *testing.T) {
	d := disk(t, api.MaxBytes)
	w := open(t, d, 1, 2, "")
	for seq := 1; seq <= 20; seq++ {
		mustAppend(t, w, run(seq, seq))
		wantE(t, "Truncate", w.Truncate(seq-1), api.OK)
		wantLooks(t, "one at a time", w, 1, seq)
	}
	wantTexts(t, "the last one", d, frame(run(20, 20)))
}

// TestP1204Gone: a segment that is gone already, whoever removed it, is none any more.
func TestP1204Gone(t *testing.T) {
	d, w := rows(t)
	wantE(t, "Remove", d.Remove(segments(d)[0]), api.OK)
	wantE(t, "Truncate", w.Truncate(5), api.ErrNone)
	wantLooks(t, "one is gone", w, 3, 9)
	wantE(t, "Truncate", w.Truncate(5), api.OK)
	wantLooks(t, "the others, too", w, 1, 9)
}
