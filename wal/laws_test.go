package wal_test

import (
	"math/rand/v2"
	"testing"

	"icehouse/api"
	"icehouse/simdisk"
	"icehouse/wal"
)

// chances: what a crash keeps: all, nothing, or this and that.
func chances(r *rand.Rand) []bool {
	keep := make([]bool, r.IntN(20))
	what := r.IntN(3)
	for i := range keep {
		keep[i] = what == 0 || what == 1 && r.IntN(2) == 0
	}
	return keep
}

// TestP1203Random: many logs, all of whose answers the model tells, too, and
// all of which leave the same behind on their disks.
func TestP1203Random(t *testing.T) {
	r := rand.New(rand.NewPCG(12, 4))
	for range 1000 {
		w, seq := twinOf(t, []int{300, 1000, 5000}[r.IntN(3)]), 0
		size, most := []int{1, 60, 200, 100000}[r.IntN(4)], 2+r.IntN(3)
		for range 40 {
			if w.d.Down() {
				w.crash(chances(r))
			}
			switch n := r.IntN(20); {
			case w.w == nil || n == 0:
				w.open(size, most)
			case n == 1:
				w.fail(1+r.IntN(5), r.IntN(2) == 0)
			case n == 2:
				w.cut(r.IntN(6))
			case n < 7:
				w.truncate(max(0, seq-r.IntN(6)))
			default:
				first := max(1, seq+1-r.IntN(3)*r.IntN(4))
				seq = first + r.IntN(3)
				w.append(runOf(first, seq, r.IntN(3)))
			}
		}
		if t.Failed() {
			t.FailNow()
		}
	}
}

// watch: what was handed to the logs of one disk, what of that must be told,
// and what was told already. It knows nothing of segments.
type watch struct {
	t          *testing.T
	d          *simdisk.Disk
	w          *wal.Log
	size, most int
	next       int
	handed     map[string]bool // entries as texts
	sure       map[int]string  // by Seq
	lost, more int             // Opens that did not tell all that was handed in; that told more than what is sure
}

func watchOf(t *testing.T, r *rand.Rand) *watch {
	size := []int{1, 100, 250, 100000}[r.IntN(4)]
	return &watch{t: t, d: disk(t, api.MaxBytes), size: size, most: 2 + r.IntN(4), next: 1, handed: map[string]bool{}, sure: map[int]string{}}
}

// append: the next numbers, as an engine would: what failed is not given again.
func (x *watch) append(n int) api.Errno {
	l := runOf(x.next, x.next+n-1, n)
	e := x.w.Append(l)
	if e == api.ErrBusy || e == api.ErrFull || e == api.ErrArg {
		return e
	}
	x.next += n
	for _, y := range l {
		x.handed[told([]api.Entry{y})] = true
		if e == api.OK {
			x.sure[y.Seq] = told([]api.Entry{y})
		}
	}
	return e
}

func (x *watch) truncate(seq int) api.Errno {
	for n := range x.sure {
		if n <= seq {
			delete(x.sure, n)
		}
	}
	return x.w.Truncate(seq)
}

// open: until it goes well; befalls has something befall the disk ahead of each but the last try.
func (x *watch) open(befalls ...func()) {
	x.t.Helper()
	for _, befall := range append(befalls, func() {}) {
		befall()
		w, l, e := wal.Open(x.d, x.size, x.most)
		if e != api.OK {
			if w != nil || len(l) > 0 {
				x.t.Fatalf("%v %s beside %d", w != nil, seqs(l), e)
			}
			continue
		}
		x.w = w
		x.check(l)
		return
	}
	x.t.Fatal("no Open went well")
}

// check: whether what was told may be told, and lacks nothing.
func (x *watch) check(l []api.Entry) {
	x.t.Helper()
	got := map[int]string{}
	for _, y := range l {
		text := told([]api.Entry{y})
		if !x.handed[text] {
			x.t.Fatalf("nobody handed in %s", text)
		}
		if got[y.Seq] != "" {
			x.t.Fatalf("%d is told twice", y.Seq)
		}
		got[y.Seq] = text
	}
	for seq, text := range x.sure {
		if got[seq] != text {
			x.t.Fatalf("%d is %s, want %s", seq, got[seq], text)
		}
	}
	if len(got) < len(x.handed) {
		x.lost++
	}
	if len(got) > len(x.sure) {
		x.more++
	}
}

// P1205

// story: what is asked of a log, up to the first error that ends it: the power went.
func (x *watch) story(r *rand.Rand, steps int) {
	for range steps {
		e := api.OK
		switch n := r.IntN(10); {
		case n < 2:
			e = x.truncate(max(0, x.next-1-r.IntN(8)))
		case n < 3:
			x.d.Fail(1+r.IntN(6), r.IntN(2) == 0)
		default:
			e = x.append(1 + r.IntN(4))
		}
		if e == api.ErrPower {
			return
		}
	}
}

// TestP1205EachCrash: of one story after the other: the power goes at each
// operation, and this and that is kept; and again while that is opened, and behind it.
func TestP1205EachCrash(t *testing.T) {
	r := rand.New(rand.NewPCG(12, 5))
	lost, more := 0, 0
	for range 100 {
		seed := r.Uint64()
		for k, ended := 0, false; !ended; k++ {
			for range 3 {
				s := rand.New(rand.NewPCG(seed, 1))
				x := watchOf(t, s)
				x.open()
				x.d.Cut(k)
				x.story(s, 20)
				ended = !x.d.Down()
				x.d.Crash(chances(r))
				x.open(func() { x.d.Cut(r.IntN(4)) }, func() { x.d.Crash(chances(r)) })
				x.d.Cut(r.IntN(20))
				x.story(r, 5)
				x.d.Crash(chances(r))
				x.open()
				lost, more = lost+x.lost, more+x.more
			}
		}
	}
	if lost == 0 || more == 0 {
		t.Error("nothing was ever lost, or kept: ", lost, more)
	}
}

// TestP1205ManyLives: one disk, log behind log, with crashes and faults wherever.
func TestP1205ManyLives(t *testing.T) {
	r := rand.New(rand.NewPCG(12, 6))
	for range 150 {
		x := watchOf(t, r)
		x.open()
		for range 20 {
			if r.IntN(3) > 0 {
				x.d.Cut(r.IntN(30))
			}
			x.story(r, 15)
			if x.d.Down() || r.IntN(2) == 0 {
				x.d.Crash(chances(r))
			}
			x.open(func() { x.d.Fail(1+r.IntN(3), r.IntN(2) == 0) }, func() { x.d.Cut(r.IntN(3)) }, func() { x.d.Crash(chances(r)) })
		}
	}
}

// TestP1205Spoilt: behind what may be lost nothing is written that must not be.
func TestP1205Spoilt(t *testing.T) {
	for k := 1; k <= 4; k++ {
		for _, done := range []bool{false, true} {
			for keep := range 16 {
				d := disk(t, api.MaxBytes)
				w := open(t, d, api.MaxBytes, 9, "")
				if k <= 2 {
					mustAppend(t, w, run(1, 2)) // so that k is an operation of a segment that is there
				}
				d.Fail(k, done)
				wantE(t, "Append", w.Append(run(3, 4)), api.ErrFault)
				mustAppend(t, w, run(5, 6))
				d.Crash([]bool{keep&1 > 0, keep&2 > 0, keep&4 > 0, keep&8 > 0})
				_, l, e := wal.Open(d, 9, 9)
				var sure []api.Entry
				for _, x := range l {
					if x.Seq < 3 || x.Seq > 4 {
						sure = append(sure, x)
					}
				}
				want := run(5, 6)
				if k <= 2 {
					want = append(run(1, 2), want...)
				}
				if e != api.OK || told(sure) != told(want) {
					t.Errorf("%d %v %d: %s %d", k, done, keep, seqs(l), e)
				}
			}
		}
	}
}

// P1206

// TestP1206Bounds: of the segments that a log made there are never more than
// most on the disk, whatever fails; where it found more it makes none.
func TestP1206Bounds(t *testing.T) {
	r := rand.New(rand.NewPCG(12, 7))
	busy := 0
	for range 300 {
		x := watchOf(t, r)
		for range 10 {
			x.open()
			there := len(segments(x.d))
			for range 30 {
				switch n := r.IntN(12); {
				case n == 0:
					x.truncate(max(0, x.next-1-r.IntN(12)))
				case n == 1:
					x.d.Fail(1+r.IntN(4), r.IntN(2) == 0)
				case n == 2:
					x.d.Cut(r.IntN(40))
				case x.append(1) == api.ErrBusy:
					busy++
				}
				now := len(segments(x.d))
				if now > there && now > x.most || x.w.Segments() != now {
					t.Fatalf("%d segments (it says %d), %d ahead of that, most %d", now, x.w.Segments(), there, x.most)
				}
				there = now
			}
			x.d.Crash(chances(r))
		}
	}
	if busy == 0 {
		t.Error("there were never most of them")
	}
}

// TestP1206Lives: where only the power goes there are never more than most over all lives of a log.
func TestP1206Lives(t *testing.T) {
	r := rand.New(rand.NewPCG(12, 8))
	for range 300 {
		x := watchOf(t, r)
		for range 20 {
			x.open()
			x.d.Cut(r.IntN(60))
			for range 20 {
				if r.IntN(5) == 0 {
					x.truncate(max(0, x.next-1-r.IntN(8)))
				} else {
					x.append(1)
				}
			}
			x.d.Crash(chances(r))
			if n := len(segments(x.d)); n > x.most {
				t.Fatalf("%d segments, most %d", n, x.most)
			}
		}
	}
}

// P1207

// tellsToo: whether what one Open told the next one told, too; of that by Seq.
func tellsToo(t *testing.T, before map[int]string, l []api.Entry) map[int]string {
	t.Helper()
	now := map[int]string{}
	for _, y := range l {
		now[y.Seq] = told([]api.Entry{y})
	}
	for seq, text := range before {
		if now[seq] != text {
			t.Fatalf("%d was %s, and is %q", seq, text, now[seq])
		}
	}
	return now
}

// TestP1207CameBack: what one Open told the next one tells, too, as nothing is
// truncated: without and with crashes between, with faults, and with the same numbers handed in anew.
func TestP1207CameBack(t *testing.T) {
	r := rand.New(rand.NewPCG(12, 9))
	maybe := 0
	for range 400 {
		d, size := disk(t, api.MaxBytes), []int{1, 100, 100000}[r.IntN(3)]
		before, sure := map[int]string{}, map[int]string{}
		for range 12 {
			if r.IntN(2) == 0 { // an Open in which the power goes
				d.Cut(r.IntN(3))
				_, l, e := wal.Open(d, size, 100)
				if e == api.OK {
					before = tellsToo(t, before, l)
				}
			}
			if d.Down() || r.IntN(2) == 0 {
				d.Crash(chances(r))
			}
			d.Fail(0, false)
			d.Cut(-1)
			w, l, e := wal.Open(d, size, 100)
			wantE(t, "Open", e, api.OK)
			before = tellsToo(t, before, l)
			for seq := range before {
				if sure[seq] == "" {
					maybe++
				}
			}
			for range r.IntN(6) {
				switch r.IntN(4) {
				case 0:
					d.Fail(1+r.IntN(4), r.IntN(2) == 0)
				case 1:
					d.Cut(r.IntN(20))
				}
				seq := 1 + r.IntN(30)
				if l := runOf(seq, seq, r.IntN(100)); w.Append(l) == api.OK {
					sure[seq] = told(l)
				}
			}
		}
	}
	if maybe == 0 {
		t.Error("nothing that failed was ever told")
	}
}
