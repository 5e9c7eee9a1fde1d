package simdisk_test

import (
	"math/rand/v2"
	"slices"
	"strings"
	"testing"

	"icehouse/api"
)

// bits: of a text of 1 (kept) and 0 (lost).
func bits(text string) []bool {
	var out []bool
	for _, c := range text {
		out = append(out, c == '1')
	}
	return out
}

// P1003

func TestP1003TheExample(t *testing.T) {
	d := made(t, 10)
	wantE(t, "Create", d.Create("a"), api.OK)
	wantE(t, "Append", d.Append("a", []byte("x")), api.OK)
	wantE(t, "Append", d.Append("a", []byte("y")), api.OK)
	d.Crash([]bool{true, false, true})
	if b, e := d.Read("a"); !slices.Equal(b, []byte{0, 121}) || e != api.OK {
		t.Error(b, e)
	}
}

// TestP1003Cases: told without a model; keep is kept (1) or lost (0).
func TestP1003Cases(t *testing.T) {
	for _, c := range []struct{ steps, keep, want string }{
		// Names.
		{"create a, append a x, sync a", "", ``},
		{"create a, append a x, sync a", "0", ``},
		{"create a, append a x, sync a", "1", `a="x"`},
		{"create a, append a x, sync a", "1000", `a="x"`},
		{"create a, append a x, sync a, dir", "", `a="x"`},
		{"create a, append a x, sync a, create b, dir", "", `a="x" b=""`},
		{"create a, create b, create c", "101", `a="" c=""`},
		{"create a, create b, create c", "011111", `b="" c=""`},
		{"create a, create b, create c", "1", `a=""`},
		{"create a, append a x, sync a, dir, remove a", "0", `a="x"`},
		{"create a, append a x, sync a, dir, remove a", "", `a="x"`},
		{"create a, append a x, sync a, dir, remove a", "1", ``},
		{"create a, append a x, sync a, dir, rename a b", "0", `a="x"`},
		{"create a, append a x, sync a, dir, rename a b", "1", `b="x"`},
		{"create a, append a x, sync a, rename a b", "10", `a="x"`},
		{"create a, append a x, sync a, rename a b", "01", ``},
		{"create a, append a x, sync a, rename a b", "11", `b="x"`},
		{"create a, append a x, sync a, rename a b, rename b c", "101", `a="x"`},
		{"create a, append a x, sync a, rename a b, rename b c", "110", `b="x"`},
		{"create a, append a x, sync a, rename a b, rename b c", "111", `c="x"`},
		{"create a, append a x, sync a, rename a b, rename b c", "011", ``},
		// The bytes are the file's, under whatever name they were written and synced.
		{"create a, dir, rename a b, append b x, sync b", "0", `a="x"`},
		{"create a, dir, rename a b, append b x", "01", `a="x"`},
		{"create a, append a x, dir, rename a b, sync b, append b y", "0", `a="x"`},
		// A lost Remove ahead of a kept Create: the name has the new file.
		{"create a, append a x, sync a, dir, remove a, create a, append a y, sync a", "00", `a="x"`},
		{"create a, append a x, sync a, dir, remove a, create a, append a y, sync a", "01", `a="y"`},
		{"create a, append a x, sync a, dir, remove a, create a, append a y, sync a", "10", ``},
		{"create a, append a x, sync a, dir, remove a, create a, append a y, sync a", "11", `a="y"`},
		// A lost Rename, and a new file by its name from.
		{"create a, append a x, sync a, dir, rename a b, create a, append a y, sync a", "00", `a="x"`},
		{"create a, append a x, sync a, dir, rename a b, create a, append a y, sync a", "01", `a="y"`},
		{"create a, append a x, sync a, dir, rename a b, create a, append a y, sync a", "10", `b="x"`},
		{"create a, append a x, sync a, dir, rename a b, create a, append a y, sync a", "11", `a="y" b="x"`},
		// A kept Rename of what a lost one left there.
		{"create a, append a x, sync a, create b, append b y, sync b, dir, rename a c, rename b a, rename a d", "001", `b="y" d="x"`},
		{"create a, append a x, sync a, create b, append b y, sync b, dir, rename a c, rename b a, rename a d", "011", `d="y"`},
		{"create a, append a x, sync a, create b, append b y, sync b, dir, rename a b", "0", `a="x" b="y"`},
		{"create a, append a x, sync a, create b, append b y, sync b, dir, rename a b", "1", `b="x"`},
		// A lost Rename, and a kept Remove of its name to, which has another file, or none.
		{"create a, append a x, sync a, create b, append b y, sync b, dir, rename a b, remove b", "01", `a="x"`},
		{"create a, append a x, sync a, dir, rename a b, remove b", "01", `a="x"`},
		{"create a, append a x, sync a, dir, rename a b, remove b", "10", `b="x"`},
		// Of one name to itself nothing changes, and keep has nothing for it.
		{"create a, dir, rename a a, create b", "10", `a="" b=""`},
		{"create a, dir, rename a a, create b", "01", `a=""`},
		{"create a, append a x, dir, rename a a", "1", `a="x"`},
		// Pieces.
		{"create a, dir, append a x, append a yz, append a w", "000", `a=""`},
		{"create a, dir, append a x, append a yz, append a w", "100", `a="x"`},
		{"create a, dir, append a x, append a yz, append a w", "110", `a="xyz"`},
		{"create a, dir, append a x, append a yz, append a w", "010", `a="\x00yz"`},
		{"create a, dir, append a x, append a yz, append a w", "001", `a="\x00\x00\x00w"`},
		{"create a, dir, append a x, append a yz, append a w", "101", `a="x\x00\x00w"`},
		{"create a, dir, append a x, append a yz, append a w", "011", `a="\x00yzw"`},
		{"create a, dir, append a x, append a yz, append a w", "111", `a="xyzw"`},
		{"create a, dir, append a x, append a yz, append a w", "01", `a="\x00yz"`},
		{"create a, dir, append a x, append a yz, append a w", "1110", `a="xyzw"`},
		{"create a, dir, append a x, sync a, append a y, append a z", "00", `a="x"`},
		{"create a, dir, append a x, sync a, append a y, append a z", "01", `a="x\x00z"`},
		{"create a, dir, append a x, append a, append a y", "01", `a="\x00y"`},
		{"create a, dir, append a x, append a, append a y", "10", `a="x"`},
		{"create a, dir, append a x, append a y, sync a", "00", `a="xy"`},
		// File by file, by rising names, behind all changes.
		{"create b, create a, dir, append b x, append a y", "10", `a="y" b=""`},
		{"create b, create a, dir, append b x, append a y", "01", `a="" b="x"`},
		{"create b, append b x, create a, append a y", "1110", `a="y" b=""`},
		{"create b, append b x, create a, append a y", "011", `a="y"`},
		{"create b, append b x, create a, append a y", "101", `b="x"`},
		{"create b, append b x, dir, rename b z, create a, append a y", "0110", `a="y" b=""`},
		{"create b, append b x, dir, rename b z, create a, append a y", "1101", `a="" z="x"`},
		{"create b, append b x, dir, rename b z, create y, append y y", "1110", `y="y" z=""`},
		// A file that is not there has no pieces to be asked of.
		{"create a, append a x, dir, remove a, create b, append b y", "111", `b="y"`},
		{"create a, append a x, dir, remove a, create b, append b y", "0110", `a="x" b=""`},
		// A removed file that comes back comes with its pieces.
		{"create a, append a x, sync a, dir, append a y, append a z, remove a", "001", `a="x\x00z"`},
		// A Create that is lost, whose file others wrote to.
		{"create a, append a x, remove a, create a, append a y", "1001", `a="x"`},
		{"create a, append a x, remove a, create a, append a y", "1000", `a=""`},
		{"create a, append a x, remove a, create a, append a y", "0011", `a="y"`},
	} {
		d := made(t, 100)
		for _, s := range steps(c.steps) {
			wantE(t, c.steps+": "+s.call, ask(d, s), api.OK)
		}
		d.Crash(bits(c.keep))
		if got := shown(d); got != c.want {
			t.Errorf("%s: Crash(%s): %s, want %s", c.steps, c.keep, got, c.want)
		}
		// All that is left is sure.
		d.Crash(nil)
		if got := shown(d); got != c.want {
			t.Errorf("%s: Crash(%s), and again: %s, want %s", c.steps, c.keep, got, c.want)
		}
	}
}

// TestP1003On: the power is on then, and there is no fuse and no failure.
func TestP1003On(t *testing.T) {
	for k := range 4 {
		w := twinOf(t, 100)
		w.play(api.OK, steps("create a, dir")...)
		w.cut(k)
		w.crash(nil)
		w.play(api.OK, steps("append a 0, append a 1, append a 2, append a 3, append a 4")...)
		w.fail(k+1, true)
		w.crash(nil)
		w.play(api.OK, steps("append a 0, append a 1, append a 2, append a 3, append a 4")...)
		w.cut(0)
		w.play(api.ErrPower, steps("append a 5")...)
		w.crash(bits("11111"))
		if w.d.Down() {
			t.Error("the power is off")
		}
		w.play(api.OK, steps("append a 5, append a 6, dir")...)
	}
}

// TestP1003Behind: what is written behind a crash lies behind what is left.
func TestP1003Behind(t *testing.T) {
	w := twinOf(t, 100)
	w.play(api.OK, steps("create a, dir, append a 12, append a 34, append a 56")...)
	w.crash(bits("010"))
	w.play(api.OK, steps("append a 78, append a 9")...)
	if shown(w.d) != `a="\x00\x0034789"` {
		t.Error(shown(w.d))
	}
	w.crash(bits("01"))
	if shown(w.d) != `a="\x00\x0034\x00\x009"` {
		t.Error(shown(w.d))
	}
	w.play(api.OK, steps("append a 0000")...)
	w.crash(nil)
	w.play(api.OK, steps("append a 1, remove a")...)
	w.crash(bits("01"))
	if shown(w.d) != `a="\x00\x0034\x00\x0091"` {
		t.Error(shown(w.d))
	}
}

// chance: a step by chance, over few names and short texts.
func chance(r *rand.Rand) step {
	names := []string{"a", "b", "c", "d"}
	name, other := names[r.IntN(4)], names[r.IntN(4)]
	switch r.IntN(12) {
	case 0, 1:
		return step{"create", name, ""}
	case 2, 3:
		return step{"rename", name, other}
	case 4:
		return step{"remove", name, ""}
	case 5:
		return step{"sync", name, ""}
	case 6:
		return step{"dir", "", ""}
	case 7:
		return step{"create", strings.Repeat("n", 63+r.IntN(3)), ""}
	default:
		return step{"append", name, "abcdefghij"[:r.IntN(1+r.IntN(10))]}
	}
}

func someKeep(r *rand.Rand) []bool {
	keep := make([]bool, r.IntN(12))
	for i := range keep {
		keep[i] = r.IntN(3) > 0
	}
	return keep
}

// TestP1003EachOfFew: each keep that may be, behind few steps by chance.
func TestP1003EachOfFew(t *testing.T) {
	r := rand.New(rand.NewPCG(10, 1))
	for range 60 {
		var few []step
		for range 4 + r.IntN(10) {
			few = append(few, chance(r))
		}
		everyCrash(t, 40, func(w *twin) {
			for _, s := range few {
				w.do(s)
			}
		})
	}
}

// TestP1003Any: many steps, failures, fuses and crashes, told by the model in all they answer.
func TestP1003Any(t *testing.T) {
	r := rand.New(rand.NewPCG(10, 2))
	for range 300 {
		w := twinOf(t, 1+r.IntN(60))
		for range 200 {
			switch r.IntN(40) {
			case 0:
				w.fail(r.IntN(8)-2, r.IntN(2) == 0)
			case 1:
				w.cut(r.IntN(20) - 3)
			case 2, 3:
				w.crash(someKeep(r))
			default:
				w.do(chance(r))
			}
			if w.m.off && r.IntN(4) == 0 {
				w.crash(someKeep(r))
			}
		}
		if t.Failed() {
			t.FailNow()
		}
	}
}
