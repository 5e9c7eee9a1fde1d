package simdisk_test

import (
	"math"
	"slices"
	"strconv"
	"strings"
	"testing"

	"icehouse/api"
	"icehouse/simdisk"
)

// P1002

func TestP1002New(t *testing.T) {
	for _, quota := range []int{0, -1, -2, math.MinInt, math.MinInt + 1, api.MaxBytes + 1, api.MaxBytes + 2, 1 << 40, math.MaxInt} {
		if d, e := simdisk.New(quota); d != nil || e != api.ErrArg {
			t.Errorf("New(%d): %v %d", quota, d, e)
		}
	}
	for _, quota := range []int{1, 2, 3, 1000, api.MaxBytes - 1, api.MaxBytes} {
		d := made(t, quota)
		if len(d.List()) > 0 || d.Used() != 0 || d.Free() != quota || d.Down() {
			t.Errorf("New(%d): %q %d %d %v", quota, d.List(), d.Used(), d.Free(), d.Down())
		}
		// The quota is just this one.
		wantE(t, "Create", d.Create("a"), api.OK)
		wantE(t, "Append above it", d.Append("a", make([]byte, quota+1)), api.ErrFull)
		wantE(t, "Append at it", d.Append("a", make([]byte, quota)), api.OK)
		if d.Used() != quota || d.Free() != 0 {
			t.Errorf("Used, Free: %d %d", d.Used(), d.Free())
		}
		wantE(t, "Append behind it", d.Append("a", []byte("x")), api.ErrFull)
	}
}

// TestP1002Done: each operation, and what it does, told without a model.
func TestP1002Done(t *testing.T) {
	for _, c := range []struct{ steps, want string }{
		{"", ``},
		{"create a", `a=""`},
		{"create b, create a, create B", `B="" a="" b=""`},
		{"create a, append a x", `a="x"`},
		{"create a, append a xy, append a z", `a="xyz"`},
		{"create a, append a xy, sync a, append a z", `a="xyz"`},
		{"create a, append a xy, sync a, sync a", `a="xy"`},
		{"create a, append a, sync a, append a", `a=""`},
		{"create a, append a x, create b, append b y, append a z", `a="xz" b="y"`},
		{"create a, append a x, rename a b", `b="x"`},
		{"create a, append a x, create b, append b y, rename a b", `b="x"`},
		{"create a, append a x, create b, append b y, rename b a, append a z", `a="yz"`},
		{"create a, append a x, rename a a", `a="x"`},
		{"create a, append a x, rename a a, append a y", `a="xy"`},
		{"create a, append a x, rename a b, create a, append a y", `a="y" b="x"`},
		{"create a, append a x, rename a b, rename b c, rename c a", `a="x"`},
		{"create a, append a x, remove a", ``},
		{"create a, append a x, create b, remove a", `b=""`},
		{"create a, append a x, remove a, create a", `a=""`},
		{"create a, append a x, remove a, create a, append a y", `a="y"`},
		{"dir, create a, dir, append a x, dir, sync a, rename a b, dir", `b="x"`},
		{"create a, append a x, sync a, dir, remove a, dir, create a", `a=""`},
	} {
		d := made(t, 100)
		for _, s := range steps(c.steps) {
			wantE(t, c.steps+": "+s.call, ask(d, s), api.OK)
		}
		if got := shown(d); got != c.want {
			t.Errorf("%s: %s, want %s", c.steps, got, c.want)
		}
		everyCrash(t, 100, func(w *twin) { w.play(api.OK, steps(c.steps)...) })
	}
}

// TestP1002Refused: by what, also where two stand against it; nothing has
// changed, also nothing that a crash would show.
func TestP1002Refused(t *testing.T) {
	long, lost := strings.Repeat("n", api.MaxName+1), strings.Repeat("x", 11)
	begin := steps("create s, append s st, sync s, dir, append s u, create a, append a xyz, sync a, append a v, create b, rename b c")
	for _, c := range []struct {
		s    step
		want api.Errno
	}{
		{step{"create", "", ""}, api.ErrArg},
		{step{"create", long, ""}, api.ErrArg},
		{step{"create", "a b", ""}, api.ErrArg},
		{step{"create", "a", ""}, api.ErrThere},
		{step{"create", "s", ""}, api.ErrThere},
		{step{"create", "c", ""}, api.ErrThere},
		{step{"append", "b", "x"}, api.ErrNone},
		{step{"append", "b", ""}, api.ErrNone},
		{step{"append", "", "x"}, api.ErrNone},
		{step{"append", long, lost}, api.ErrNone},
		{step{"append", "b", lost}, api.ErrNone},
		{step{"append", "a", lost}, api.ErrFull},
		{step{"append", "a", lost[:4]}, api.ErrFull},
		{step{"append", "c", lost[:4]}, api.ErrFull},
		{step{"rename", "b", "d"}, api.ErrNone},
		{step{"rename", "b", "b"}, api.ErrNone},
		{step{"rename", "b", "a"}, api.ErrNone},
		{step{"rename", "b", ""}, api.ErrNone},
		{step{"rename", long, long}, api.ErrNone},
		{step{"rename", "", ""}, api.ErrNone},
		{step{"rename", "a", ""}, api.ErrArg},
		{step{"rename", "a", long}, api.ErrArg},
		{step{"rename", "a", "a\x7f"}, api.ErrArg},
		{step{"remove", "b", ""}, api.ErrNone},
		{step{"remove", "", ""}, api.ErrNone},
		{step{"remove", long, ""}, api.ErrNone},
		{step{"sync", "b", ""}, api.ErrNone},
		{step{"sync", "", ""}, api.ErrNone},
		{step{"sync", long, ""}, api.ErrNone},
	} {
		what := c.s.call + " " + brief(c.s.name) + " " + brief(c.s.more)
		d := made(t, 10)
		for _, s := range begin {
			wantE(t, s.call, ask(d, s), api.OK)
		}
		wantE(t, what, ask(d, c.s), c.want)
		if got := shown(d); got != `a="xyzv" c="" s="stu"` {
			t.Errorf("%s: %s", what, got)
		}
		everyCrash(t, 10, func(w *twin) {
			w.play(api.OK, begin...)
			w.play(c.want, c.s)
		})
	}
}

// TestP1002Off: without power all six, and Read, answer ErrPower, whatever
// else stands against them, and the other looks what they did.
func TestP1002Off(t *testing.T) {
	w := twinOf(t, 10)
	w.play(api.OK, steps("create a, append a xyz, sync a, dir, append a v")...)
	w.cut(0)
	w.play(api.ErrPower, steps("create b")...)
	w.play(api.ErrPower, steps("create b, create a, append a x, append b x, append a 0123456789, rename a b, rename b a, rename a a, remove a, remove b, sync a, sync b, dir")...)
	w.play(api.ErrPower, step{"create", "", ""}, step{"create", "\x00", ""}, step{"rename", "a", ""}, step{"append", "", ""})
	for _, name := range []string{"a", "b", "", "\x00"} {
		if b, e := w.d.Read(name); e != api.ErrPower || len(b) > 0 {
			t.Errorf("Read(%q): %q %d", name, b, e)
		}
	}
	if l := w.d.List(); !slices.Equal(l, []string{"a"}) || w.d.Used() != 4 || w.d.Free() != 6 || !w.d.Down() {
		t.Error(l, w.d.Used(), w.d.Free(), w.d.Down())
	}
	// What is told meanwhile turns no power on.
	w.fail(1, true)
	w.cut(-1)
	w.play(api.ErrPower, steps("create b, dir, remove a")...)
	w.crash([]bool{true})
	if w.d.Down() || shown(w.d) != `a="xyzv"` {
		t.Error(shown(w.d))
	}
	w.play(api.OK, steps("create b, append b x, dir")...)
}

// names that may be, and names that may not.
func goodNames() []string {
	out := []string{"a", "!", "~", "!~", "..", "/", "a/b", "-", "0", strings.Repeat("n", api.MaxName-1), strings.Repeat("n", api.MaxName), strings.Repeat("!", api.MaxName), strings.Repeat("~", api.MaxName)}
	for c := 33; c <= 126; c++ {
		out = append(out, "x"+string(rune(c))+"x")
	}
	return out
}

func badNames() []string {
	out := []string{"", strings.Repeat("n", api.MaxName+1), strings.Repeat("n", 1000), strings.Repeat("n", api.MaxBytes), "\u00e9", "a\u00e9", "\u4e16", "\xff\xfe", "a\n"}
	for c := range 256 {
		if c < 33 || c > 126 {
			out = append(out, string([]byte{byte(c)}), string([]byte{'x', byte(c)}), string([]byte{byte(c), 'x'}), string([]byte{'x', byte(c), 'x'}))
		}
	}
	return append(out, strings.Repeat("n", api.MaxName-1)+" ", strings.Repeat("n", api.MaxName-1)+"\x7f", " "+strings.Repeat("n", api.MaxName-1))
}

func TestP1002Names(t *testing.T) {
	for _, name := range goodNames() {
		w := twinOf(t, 10)
		w.play(api.OK, step{"create", name, ""}, step{"append", name, "x"}, step{"sync", name, ""}, step{"rename", name, "other"}, step{"rename", "other", name})
		if l := w.d.List(); len(l) != 1 || l[0] != name {
			t.Errorf("%q: %q", name, l)
		}
		w.play(api.OK, step{"remove", name, ""})
	}
	for _, name := range badNames() {
		w := twinOf(t, 10)
		w.play(api.OK, step{"create", "a", ""})
		w.play(api.ErrArg, step{"create", name, ""}, step{"rename", "a", name})
		w.play(api.ErrNone, step{"append", name, "x"}, step{"sync", name, ""}, step{"rename", name, "b"}, step{"remove", name, ""})
		if b, e := w.d.Read(name); e != api.ErrNone || len(b) > 0 {
			t.Errorf("Read(%s): %q %d", brief(name), b, e)
		}
	}
}

// TestP1002List: rising byte by byte, not as they were made.
func TestP1002List(t *testing.T) {
	d := made(t, 10)
	names := []string{"b", "a", "aa", "B", "~", "!", "10", "9", "a!", "ab", "a~"}
	for _, name := range names {
		wantE(t, "Create", d.Create(name), api.OK)
	}
	slices.Sort(names)
	if l := d.List(); !slices.Equal(l, names) {
		t.Errorf("%q", l)
	}
}

func TestP1002MaxFiles(t *testing.T) {
	d := made(t, 10)
	name := func(i int) string { return "f" + strconv.Itoa(1000+i) }
	for i := range api.MaxFiles {
		wantE(t, "Create", d.Create(name(i)), api.OK)
	}
	none := func() {
		t.Helper()
		wantE(t, "one more", d.Create("more"), api.ErrFull)
		wantE(t, "one that is there", d.Create(name(0)), api.ErrThere)
		wantE(t, "one that may not be", d.Create(""), api.ErrArg)
		if n := len(d.List()); n != api.MaxFiles {
			t.Error(n)
		}
	}
	none()
	wantE(t, "Append", d.Append(name(7), []byte("x")), api.OK)
	wantE(t, "Rename", d.Rename(name(3), "other"), api.OK)
	wantE(t, "Rename", d.Rename("other", name(3)), api.OK)
	none()
	wantE(t, "SyncDir", d.SyncDir(), api.OK)
	none()
	// What is gone, by Remove or by Rename, makes room, sure or not.
	wantE(t, "Remove", d.Remove(name(5)), api.OK)
	wantE(t, "Create", d.Create(name(5)), api.OK)
	none()
	wantE(t, "Rename", d.Rename(name(8), name(9)), api.OK)
	wantE(t, "Create", d.Create(name(8)), api.OK)
	none()
}

// TestP1002MoreFiles: a crash may bring back more files, and more bytes, than may be made.
func TestP1002MoreFiles(t *testing.T) {
	w := twinOf(t, 10)
	name := func(i int) string { return "f" + strconv.Itoa(1000+i) }
	for i := range api.MaxFiles {
		wantE(t, "Create", w.d.Create(name(i)), api.OK)
		w.m.operate(step{"create", name(i), ""})
	}
	w.play(api.OK, steps("append f1000 0123456789, sync f1000, dir, remove f1000, remove f1001")...)
	w.play(api.OK, steps("create a, append a abcdefghij, create b")...)
	w.play(api.ErrFull, steps("create c, append a x")...)
	w.crash([]bool{false, false, true, true, true})
	if len(w.d.List()) != api.MaxFiles+2 || w.d.Used() != 20 || w.d.Free() != -10 {
		t.Error(len(w.d.List()), w.d.Used(), w.d.Free())
	}
	w.play(api.ErrFull, steps("create c, append a x, append a, append f1000")...)
	w.play(api.OK, steps("remove b, remove f1001")...)
	w.play(api.ErrFull, steps("create c")...)
	w.play(api.OK, steps("remove f1000, append a, create c")...)
	w.play(api.ErrFull, steps("create d, append a x")...)
}

// TestP1002Quota: it is of all files, whatever was removed, renamed over, or refused.
func TestP1002Quota(t *testing.T) {
	w := twinOf(t, 10)
	w.play(api.OK, steps("create a, create b, append a 0123, append b 01234")...)
	w.play(api.ErrFull, steps("append a xy, append b xy")...)
	w.play(api.OK, steps("append a x, append a, append b")...)
	w.play(api.ErrFull, steps("append a x, append b x")...)
	w.play(api.OK, steps("sync a, dir, sync b")...)
	w.play(api.ErrFull, steps("append a x")...)
	w.play(api.OK, steps("rename a b, append b 56789")...)
	w.play(api.ErrFull, steps("append b x")...)
	w.play(api.OK, steps("remove b, create b, append b 0123456789")...)
	w.play(api.ErrFull, steps("append b x")...)
	d := made(t, api.MaxBytes)
	wantE(t, "Create", d.Create("a"), api.OK)
	wantE(t, "Append", d.Append("a", make([]byte, 3*api.MaxBytes)), api.ErrFull)
	wantE(t, "Append", d.Append("a", make([]byte, api.MaxBytes)), api.OK)
	wantE(t, "Append", d.Append("a", make([]byte, api.MaxBytes)), api.ErrFull)
	if d.Used() != api.MaxBytes || d.Free() != 0 {
		t.Error(d.Used(), d.Free())
	}
}

// each: of the six, one that may be done behind the beginning.
func each() []step {
	return steps("create c, append a xy, append a, rename a b, rename a c, rename a a, remove a, sync a, dir")
}

const beginning = "create a, append a st, sync a, create b, append b u, dir, append a v, append b w"

// TestP1002Fail: the kth operation fails, done or not, and none behind it.
func TestP1002Fail(t *testing.T) {
	for _, s := range each() {
		for _, done := range []bool{false, true} {
			for k := 1; k <= 4; k++ {
				everyCrash(t, 20, func(w *twin) {
					w.play(api.OK, steps(beginning)...)
					w.fail(k, done)
					for i := 1; i < k; i++ {
						w.play(api.OK, step{"append", "a", strconv.Itoa(i)})
					}
					text := shown(w.d)
					w.play(api.ErrFault, s)
					if done && s.call == "remove" && shown(w.d) != `b="uw"` || !done && shown(w.d) != text {
						t.Errorf("%s %v: %s", s.call, done, shown(w.d))
					}
					w.play(api.OK, steps("create last, append last x, sync last, append last y, dir, rename last end")...)
				})
			}
		}
	}
}

// TestP1002NoFail: a count below 1 is none, and the last one told holds.
func TestP1002NoFail(t *testing.T) {
	for _, k := range []int{0, -1, -2, math.MinInt} {
		w := twinOf(t, 20)
		w.fail(1, true)
		w.fail(k, true)
		w.play(api.OK, steps(beginning)...)
		w.fail(k, false)
		w.play(api.OK, each()[:2]...)
		w.fail(2, false)
		w.fail(1, true)
		w.play(api.ErrFault, steps("create d")...)
		w.play(api.OK, steps("append d x")...)
	}
	w := twinOf(t, 20)
	w.fail(math.MaxInt, false)
	w.play(api.OK, steps(beginning)...)
	w.fail(1, false)
	w.fail(2, true)
	w.play(api.OK, steps("append a 1")...)
	w.play(api.ErrFault, steps("append a 2")...)
	if shown(w.d) != `a="stv12" b="uw"` {
		t.Error(shown(w.d))
	}
}

// TestP1002Cut: behind k operations more the power goes, and the one at which it goes is not done.
func TestP1002Cut(t *testing.T) {
	for _, s := range each() {
		for k := range 4 {
			everyCrash(t, 20, func(w *twin) {
				w.play(api.OK, steps(beginning)...)
				w.cut(k)
				for i := range k {
					w.play(api.OK, step{"append", "a", strconv.Itoa(i)})
				}
				if w.d.Down() {
					t.Error("too early")
				}
				w.play(api.ErrPower, s)
				if !w.d.Down() {
					t.Error("the power is on")
				}
				w.play(api.ErrPower, each()...)
			})
		}
	}
}

func TestP1002NoCut(t *testing.T) {
	for _, k := range []int{-1, -2, math.MinInt, math.MinInt + 1} {
		w := twinOf(t, 20)
		w.cut(1)
		w.cut(k)
		w.play(api.OK, steps(beginning)...)
		w.play(api.OK, each()[:3]...)
		w.cut(2)
		w.cut(0)
		w.play(api.ErrPower, steps("create d")...)
	}
	w := twinOf(t, 20)
	w.cut(math.MaxInt)
	w.play(api.OK, steps(beginning)...)
	w.cut(0)
	w.cut(1)
	w.play(api.OK, steps("append a 1")...)
	w.play(api.ErrPower, steps("append a 2")...)
}

// TestP1002Both: the fuse is asked first.
func TestP1002Both(t *testing.T) {
	for k := 1; k <= 4; k++ {
		for cut := range 5 {
			for _, done := range []bool{false, true} {
				everyCrash(t, 20, func(w *twin) {
					w.play(api.OK, steps("create a, append a s, sync a, dir")...)
					w.fail(k, done)
					w.cut(cut)
					for i := range 5 {
						want := api.OK
						if i+1 == k {
							want = api.ErrFault
						}
						if i >= cut {
							want = api.ErrPower
						}
						w.play(want, step{"append", "a", strconv.Itoa(i)})
					}
				})
			}
		}
	}
}

// TestP1002NoOperation: what is refused counts for neither, nor does a look.
func TestP1002NoOperation(t *testing.T) {
	refuse := func(w *twin) {
		w.play(api.ErrArg, step{"create", "", ""}, step{"rename", "a", ""}, step{"create", "a b", ""})
		w.play(api.ErrThere, steps("create a, create b")...)
		w.play(api.ErrNone, steps("append c x, rename c a, remove c, sync c")...)
		w.play(api.ErrFull, steps("append a 0123456789012345678")...)
		w.looks()
	}
	for k := 1; k <= 3; k++ {
		for _, s := range each() {
			w := twinOf(t, 20)
			w.play(api.OK, steps(beginning)...)
			w.fail(k, true)
			for range k - 1 {
				refuse(w)
				w.play(api.OK, steps("append a x")...)
			}
			refuse(w)
			w.play(api.ErrFault, s)

			w = twinOf(t, 20)
			w.play(api.OK, steps(beginning)...)
			w.cut(k)
			for range k {
				refuse(w)
				w.play(api.OK, steps("append a x")...)
			}
			refuse(w)
			w.play(api.ErrPower, s)
		}
	}
	w := twinOf(t, 1)
	for i := range api.MaxFiles {
		w.d.Create("f" + strconv.Itoa(i))
		w.m.operate(step{"create", "f" + strconv.Itoa(i), ""})
	}
	w.fail(1, false)
	w.play(api.ErrFull, steps("create more")...)
	w.cut(1)
	w.play(api.ErrFull, steps("create more")...)
	w.play(api.ErrFault, steps("append f1 x")...)
	w.play(api.ErrPower, steps("append f1 x")...)
}
