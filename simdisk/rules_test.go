package simdisk_test

import (
	"bytes"
	"math"
	"math/rand/v2"
	"slices"
	"strconv"
	"strings"
	"testing"

	"icehouse/api"
	"icehouse/simdisk"
)

// P1001

func TestP1001NobodyMade(t *testing.T) {
	refused, _ := simdisk.New(0)
	for _, d := range []*simdisk.Disk{nil, {}, new(simdisk.Disk), refused} {
		for range 2 { // it stays so, whatever was called
			for _, name := range []string{"", "a", "\xff", strings.Repeat("a", api.MaxName+1)} {
				for _, more := range []string{"", "a", "b", strings.Repeat("x", api.MaxBytes+1)} {
					for _, call := range []string{"create", "append", "rename", "remove", "sync", "dir"} {
						wantE(t, call, ask(d, step{call, name, more}), api.ErrArg)
					}
				}
				if b, e := d.Read(name); e != api.ErrArg || len(b) > 0 {
					t.Errorf("Read: %q %d", b, e)
				}
			}
			if len(d.List()) > 0 || d.Used() != 0 || d.Free() != 0 || d.Down() {
				t.Error(d.List(), d.Used(), d.Free(), d.Down())
			}
			for _, k := range []int{0, 1, -1, math.MinInt, math.MaxInt} {
				d.Fail(k, true)
				d.Cut(k)
			}
			d.Crash(nil)
			d.Crash([]bool{true, false})
		}
	}
}

// TestP1001Any: whatever is called ends, and answers as the model does.
func TestP1001Any(t *testing.T) {
	r := rand.New(rand.NewPCG(10, 8))
	numbers := []int{math.MinInt, math.MinInt + 1, -1, 0, 1, 2, 3, math.MaxInt - 1, math.MaxInt}
	words := []string{"", "a", "b", "\x00", "\xff", strings.Repeat("a", 64), strings.Repeat("a", 65), "a b", "~", "!"}
	for range 100 {
		w := twinOf(t, 30)
		for range 100 {
			switch r.IntN(12) {
			case 0:
				w.fail(numbers[r.IntN(len(numbers))], r.IntN(2) == 0)
			case 1:
				w.cut(numbers[r.IntN(len(numbers))])
			case 2:
				w.crash(make([]bool, r.IntN(1000)))
			default:
				call := []string{"create", "append", "rename", "remove", "sync", "dir"}[r.IntN(6)]
				w.do(step{call, words[r.IntN(len(words))], words[r.IntN(len(words))]})
			}
		}
	}
}

// TestP1001Copy: a copy of a disk is the same one, so that no call of either can tear it.
func TestP1001Copy(t *testing.T) {
	w := twinOf(t, 10)
	one, other := w.d, *w.d
	w.play(api.OK, steps("create a, append a x")...)
	w.d = &other
	w.looks()
	w.play(api.OK, steps("append a y, dir, create b")...)
	w.fail(2, false)
	w.d = one
	w.play(api.OK, steps("append a z")...)
	w.d = &other
	w.play(api.ErrFault, steps("sync a")...)
	w.crash(bits("1"))
	w.d = one
	w.looks()
}

// TestP1001NothingIsChanged: not even the room behind a list.
func TestP1001NothingIsChanged(t *testing.T) {
	for n := range 9 {
		room := bytes.Repeat([]byte("r"), 100)
		keep := slices.Repeat([]bool{true, false}, 20)
		d := made(t, 1000)
		for range 3 {
			d.Create("a")
			d.Append("a", room[:n])
			d.Append("a", []byte("and more"))
			d.Create("b")
			d.Crash(keep[:n])
		}
		if string(room) != strings.Repeat("r", 100) || !slices.Equal(keep, slices.Repeat([]bool{true, false}, 20)) {
			t.Errorf("changed: %q %v", room, keep)
		}
	}
}

// spoil: all that lies in b is overwritten, the room behind it too.
func spoil(b []byte) {
	for i := range b[:cap(b)] {
		b[:cap(b)][i] = '!'
	}
}

// TestP1001BytesAreNotKept: what Append was handed may be changed then.
func TestP1001BytesAreNotKept(t *testing.T) {
	for _, n := range []int{0, 1, 7, 8, 9, 64, 1000} {
		piece := bytes.Repeat([]byte("p"), n+20)[:n]
		want := string(piece)
		w := twinOf(t, 5000)
		w.play(api.OK, steps("create a, create b")...)
		for _, name := range []string{"a", "b", "a"} {
			wantE(t, "Append", w.d.Append(name, piece), api.OK)
			w.m.operate(step{"append", name, want})
		}
		spoil(piece)
		w.looks()
		w.play(api.OK, step{"append", "a", "more"}, step{"append", "b", "other"})
		w.crash(bits("1101111"))
		if string(piece) != strings.Repeat("!", n) {
			t.Errorf("changed: %q", piece)
		}
	}
}

// TestP1001AnswersAreNew: what was answered may be changed, and stays what it was.
func TestP1001AnswersAreNew(t *testing.T) {
	w := twinOf(t, 100)
	w.play(api.OK, steps("create a, append a 0123456789, sync a, append a xyz, create b, append b 0123456789, dir")...)
	one, _ := w.d.Read("a")
	two, _ := w.d.Read("a")
	names, again := w.d.List(), w.d.List()
	spoil(one)
	for i := range names[:cap(names)] {
		names[:cap(names)][i] = "!"
	}
	w.looks()
	w.play(api.OK, steps("append a more, append b more")...)
	spoil(one)
	w.looks()
	w.crash(bits("001"))
	w.play(api.OK, steps("append a behind, rename a c, remove b, dir, remove c")...)
	if string(two) != "0123456789xyz" || !slices.Equal(again, []string{"a", "b"}) {
		t.Errorf("an answer was changed: %q %q", two, again)
	}
}

// TestP1001DisksAreApart: what is asked of one changes nothing in another one.
func TestP1001DisksAreApart(t *testing.T) {
	one, two := twinOf(t, 10), twinOf(t, 20)
	one.play(api.OK, steps("create a, append a x")...)
	two.looks()
	two.play(api.OK, steps("create a, append a yy, dir")...)
	one.looks()
	one.cut(0)
	one.play(api.ErrPower, steps("dir")...)
	two.fail(2, true)
	two.play(api.OK, steps("append a z")...)
	one.crash(nil)
	two.play(api.ErrFault, steps("append a z")...)
	one.looks()
	one.play(api.OK, steps("create b, create c")...)
	two.looks()
}

// TestP1001TheSameAgain: the same calls are answered the same.
func TestP1001TheSameAgain(t *testing.T) {
	r := rand.New(rand.NewPCG(10, 9))
	for range 200 {
		seed := r.Uint64()
		tell := func() []string {
			r, d := rand.New(rand.NewPCG(seed, 1)), made(t, 60)
			out := []string{}
			for range 60 {
				out = append(out, strconv.Itoa(int(ask(d, chance(r)))), shown(d))
				if r.IntN(10) == 0 {
					d.Crash(someKeep(r))
				}
			}
			return out
		}
		if !slices.Equal(tell(), tell()) {
			t.Fatal("the same calls were answered otherwise")
		}
	}
}
