package wal_test

import (
	"math"
	"math/rand/v2"
	"runtime"
	"strings"
	"testing"

	"icehouse/api"
	"icehouse/wal"
)

// P1201

func TestP1201NobodyMade(t *testing.T) {
	refused, _, _ := wal.Open(nil, 9, 9)
	for _, w := range []*wal.Log{nil, {}, new(wal.Log), refused} {
		for range 2 { // it stays so, whatever was called
			for _, l := range [][]api.Entry{nil, {}, run(1, 1), run(1, 16), run(1, 17), {{}}} {
				wantE(t, "Append", w.Append(l), api.ErrArg)
			}
			for _, seq := range []int{0, 1, -1, math.MinInt, math.MaxInt} {
				wantE(t, "Truncate", w.Truncate(seq), api.ErrArg)
			}
			wantLooks(t, "nobody made it", w, 0, 0)
		}
	}
}

// TestExample: of the chapter.
func TestExample(t *testing.T) {
	d := disk(t, 4096)
	w := open(t, d, 1000, 5, "")
	mustAppend(t, w, run(1, 2))
	d.Crash(nil)
	open(t, d, 1000, 5, "1 2")
}

// anyEntries: batches that may be, and others.
func anyEntries(r *rand.Rand) []api.Entry {
	first := []int{-1, 0, 1, 2, 9, api.MaxSeq - 3, api.MaxSeq - 1, math.MaxInt - 20, math.MinInt}[r.IntN(9)]
	l := run(first, first+r.IntN(18))
	if r.IntN(3) == 0 {
		switch x := &l[r.IntN(len(l))]; r.IntN(4) {
		case 0:
			x.Seq = r.IntN(20)
		case 1:
			x.Time = math.MinInt
		case 2:
			x.Labels = nil
		case 3:
			x.Line = strings.Repeat("x", 1023+r.IntN(3))
		}
	}
	return l
}

// TestP1201Any: whatever is called ends, and answers as the model does.
func TestP1201Any(t *testing.T) {
	r := rand.New(rand.NewPCG(12, 2))
	numbers := []int{math.MinInt, -1, 0, 1, 2, 3, 9, 30, 100, 101, api.MaxBytes, api.MaxBytes + 1, api.MaxSeq - 1, math.MaxInt}
	number := func() int { return numbers[r.IntN(len(numbers))] }
	for range 300 {
		w := twinOf(t, 1+r.IntN(3000))
		for range 40 {
			switch r.IntN(8) {
			case 0:
				size, most := number(), number()
				if size >= 1 && size <= api.MaxBytes && most >= 2 && most <= 100 {
					w.open(size, most)
				} else {
					wantOpen(t, "any", w.d, size, most, api.ErrArg)
				}
			case 1:
				w.fail(r.IntN(5), r.IntN(2) == 0)
			case 2:
				w.cut(r.IntN(40) - 4)
			case 3:
				if w.d.Down() {
					w.crash(chances(r))
				}
			}
			if w.w == nil {
				wantE(t, "of no log", w.w.Append(anyEntries(r)), api.ErrArg)
				wantE(t, "of no log", w.w.Truncate(number()), api.ErrArg)
			} else if r.IntN(3) == 0 {
				w.truncate(number())
			} else {
				w.append(anyEntries(r))
			}
		}
		if t.Failed() {
			t.FailNow()
		}
	}
}

// TestP1201Copy: a copy of a log is the same one, so that no call of either can tear it.
func TestP1201Copy(t *testing.T) {
	d := disk(t, api.MaxBytes)
	one := open(t, d, api.MaxBytes, 2, "")
	copied := *one
	other := &copied
	mustAppend(t, one, run(1, 2))
	wantLooks(t, "the other one", other, 1, 2)
	mustAppend(t, other, run(3, 3))
	d.Fail(1, false)
	wantE(t, "Append", other.Append(run(4, 4)), api.ErrFault)
	mustAppend(t, one, run(5, 5))
	wantTexts(t, "both wrote", d, frame(run(1, 2))+frame(run(3, 3)), frame(run(5, 5)))
	wantE(t, "Truncate", other.Truncate(9), api.OK)
	wantLooks(t, "the first one", one, 0, 5)
}

// TestP1201NothingIsChanged: what Append is handed, and the room behind it, stays as it was.
func TestP1201NothingIsChanged(t *testing.T) {
	room := run(1, 20)
	want := told(room)
	for n := range 18 {
		d := disk(t, api.MaxBytes)
		w := open(t, d, 1, 9, "")
		w.Append(room[:n])
		w.Append(room[1 : n+1])
		d.Fail(1, true)
		w.Append(room[:n])
		w.Truncate(5)
		if told(room) != want {
			t.Fatal("what was handed in was changed")
		}
	}
}

// TestP1201NothingIsKept: what Append was handed may be changed then.
func TestP1201NothingIsKept(t *testing.T) {
	d := disk(t, api.MaxBytes)
	w := open(t, d, 1, 9, "")
	for seq := 1; seq <= 5; seq++ {
		l := run(seq, seq)
		mustAppend(t, w, l)
		spoil(l)
	}
	l := run(6, 7)
	d.Fail(3, true)
	wantE(t, "Append", w.Append(l), api.ErrFault)
	spoil(l)
	wantLooks(t, "spoilt", w, 6, 7)
	for seq := 1; seq <= 6; seq++ {
		wantE(t, "Truncate", w.Truncate(seq), api.OK)
		wantLooks(t, "spoilt", w, 6-min(seq, 5), 7)
	}
	d.Crash([]bool{true})
	_, l, e := wal.Open(d, 1, 9)
	if e != api.OK || told(l) != told(run(6, 7)) {
		t.Errorf("%s %d", told(l), e)
	}
}

// TestP1201AnswersAreNew: what Open answered may be changed: the log, and what later ones tell, stays.
func TestP1201AnswersAreNew(t *testing.T) {
	d := laid(t, file{name(1), frame(run(1, 3)) + frame(runOf(2, 4, 1))}, file{name(2), frame(run(5, 6))})
	_, stays, _ := wal.Open(d, 1, 9)
	want := told(stays)
	for range 3 {
		w, l, e := wal.Open(d, 1, 9)
		if e != api.OK || told(l) != want {
			t.Fatalf("%s %d, want %s", told(l), e, want)
		}
		for i := range l {
			before := told(l[i+1:])
			for j := range l[i].Labels[:cap(l[i].Labels)] {
				l[i].Labels[:cap(l[i].Labels)][j] = api.Label{Name: "spoilt"}
			}
			if told(l[i+1:]) != before {
				t.Error("two lists of an answer share something")
			}
		}
		spoil(l)
		wantLooks(t, "spoilt", w, 2, 6)
		wantE(t, "Truncate", w.Truncate(3), api.OK)
		wantLooks(t, "spoilt", w, 2, 6)
	}
	if told(stays) != want {
		t.Error("an answer was changed by those behind it")
	}
	w, l, _ := wal.Open(d, 1, 9)
	mustAppend(t, w, run(7, 7))
	spoil(l)
	wantE(t, "Truncate", w.Truncate(4), api.OK)
	wantLooks(t, "spoilt", w, 2, 7)
	open(t, d, 1, 9, "5 6 7")
}

// TestP1201LogsAreApart: what is asked of one changes nothing of another one, on another disk.
func TestP1201LogsAreApart(t *testing.T) {
	one, two := twinOf(t, 500), twinOf(t, 500)
	one.open(1, 3)
	two.open(100, 2)
	one.append(run(1, 3))
	two.looks()
	two.append(run(8, 9))
	two.fail(1, true)
	one.append(run(4, 4))
	two.append(run(10, 10))
	one.truncate(9)
	two.looks()
	two.truncate(9)
	one.looks()
}

// TestP1201TheSameAgain: the same calls are answered the same.
func TestP1201TheSameAgain(t *testing.T) {
	r := rand.New(rand.NewPCG(12, 3))
	for range 100 {
		seed := r.Uint64()
		tell := func() string {
			r, d, out := rand.New(rand.NewPCG(seed, 1)), disk(t, 2000), []string{}
			w := open(t, d, 50, 5, "")
			for range 40 {
				var e api.Errno
				switch r.IntN(4) {
				case 0:
					e = w.Truncate(r.IntN(20))
				case 1:
					d.Fail(r.IntN(9), r.IntN(2) == 0)
				default:
					seq := 1 + r.IntN(20)
					e = w.Append(run(seq, seq+r.IntN(3)))
				}
				out = append(out, string(rune('a'+e)), string(rune('A'+w.Segments())), string(rune('A'+w.Last())))
			}
			return strings.Join(append(out, texts(t, d)...), "")
		}
		if tell() != tell() {
			t.Fatal("the same calls were answered otherwise")
		}
	}
}

// TestP1201KeepsNoMore: what went is not kept, nor is what a segment says.
func TestP1201KeepsNoMore(t *testing.T) {
	heap := func() int {
		runtime.GC()
		var m runtime.MemStats
		runtime.ReadMemStats(&m)
		return int(m.HeapAlloc)
	}
	d := disk(t, api.MaxBytes)
	w := open(t, d, 1, 9, "")
	ahead := heap()
	for seq := 1; seq <= 20000; seq++ {
		mustAppend(t, w, run(seq, seq))
		wantE(t, "Truncate", w.Truncate(seq), api.OK)
	}
	if more := heap() - ahead; more > 1<<20 {
		t.Errorf("%d bytes more are kept", more)
	}
	runtime.KeepAlive(w)
}
