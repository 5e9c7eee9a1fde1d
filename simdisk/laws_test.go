package simdisk_test

import (
	"math/rand/v2"
	"slices"
	"strconv"
	"strings"
	"testing"

	"icehouse/api"
	"icehouse/simdisk"
)

// watch: which text each name must have behind any crash, as far as P1004
// tells. It knows nothing of pieces, and of changes just whose names they are.
type watch struct {
	d    *simdisk.Disk
	file map[string]int    // of each name its file
	last int               // the file that was made last
	text map[int]string    // of each file that was synced its bytes of then
	sure map[string]int    // of each name that was made sure, and not changed since, its file
	all  map[string]string // as the names were made sure: of each its file's text as it was synced last
}

func watchOf(d *simdisk.Disk) *watch {
	return &watch{d: d, file: map[string]int{}, text: map[int]string{}, sure: map[string]int{}, all: map[string]string{}}
}

// do: the step; a failed one may have been done or not.
func (w *watch) do(t *testing.T, s step) {
	t.Helper()
	e := ask(w.d, s)
	if e != api.OK && e != api.ErrFault {
		return
	}
	if s.call == "create" || s.call == "remove" || s.call == "rename" && s.name != s.more {
		delete(w.sure, s.name)
		delete(w.sure, s.more)
	}
	if e != api.OK {
		t.Fatal("a fault that nobody told")
	}
	switch s.call {
	case "create":
		w.last++
		w.file[s.name] = w.last
	case "rename":
		f := w.file[s.name]
		delete(w.file, s.name)
		w.file[s.more] = f
	case "remove":
		delete(w.file, s.name)
	case "sync":
		b, _ := w.d.Read(s.name)
		w.text[w.file[s.name]] = string(b)
	case "dir":
		w.sure = map[string]int{}
		for name, f := range w.file {
			w.sure[name] = f
		}
	}
}

// crash: whether what is sure is there; from then on all that is there is sure.
func (w *watch) crash(t *testing.T, keep []bool) {
	t.Helper()
	w.d.Crash(keep)
	for name, f := range w.sure {
		b, e := w.d.Read(name)
		if e != api.OK || !strings.HasPrefix(string(b), w.text[f]) {
			t.Fatalf("%s: %q %d, but %q was sure", name, b, e, w.text[f])
		}
	}
	w.file, w.sure = map[string]int{}, map[string]int{}
	for _, name := range w.d.List() {
		b, _ := w.d.Read(name)
		w.last++
		w.file[name], w.sure[name], w.text[w.last] = w.last, w.last, string(b)
	}
}

// P1004

func TestP1004Sure(t *testing.T) {
	r := rand.New(rand.NewPCG(10, 3))
	for range 1000 {
		w := watchOf(made(t, 200))
		for range 100 {
			w.do(t, chance(r))
			if r.IntN(20) == 0 {
				if r.IntN(2) == 0 {
					w.d.Cut(0) // whatever comes next is not done
					w.do(t, chance(r))
				}
				w.crash(t, someKeep(r))
			}
		}
	}
}

// TestP1004EachCut: a file is written, synced, and its name made sure: at
// whatever operation behind that the power goes, it is there.
func TestP1004EachCut(t *testing.T) {
	r := rand.New(rand.NewPCG(10, 4))
	for range 200 {
		var more []step
		for range 12 {
			if s := chance(r); s.name != "d" && s.more != "d" {
				more = append(more, s)
			}
		}
		for k := range 13 {
			d := made(t, 200)
			for _, s := range steps("create c, append c xyz, rename c d, sync d, dir, append d w") {
				wantE(t, s.call, ask(d, s), api.OK)
			}
			d.Cut(k)
			for _, s := range more {
				ask(d, s)
			}
			d.Crash(someKeep(r))
			if b, e := d.Read("d"); e != api.OK || !strings.HasPrefix(string(b), "xyz") {
				t.Fatalf("%q %d", b, e)
			}
		}
	}
}

// P1005

// TestP1005All: with all kept nothing changes that can be read.
func TestP1005All(t *testing.T) {
	r := rand.New(rand.NewPCG(10, 5))
	for range 2000 {
		d := made(t, 100)
		for range 1 + r.IntN(60) {
			if r.IntN(20) == 0 {
				d.Crash(someKeep(r))
			}
			ask(d, chance(r))
		}
		text, used, free := shown(d), d.Used(), d.Free()
		d.Crash(slices.Repeat([]bool{true}, 70))
		if shown(d) != text || d.Used() != used || d.Free() != free {
			t.Fatalf("%s, but it was %s", shown(d), text)
		}
	}
}

// TestP1005None: with none kept there is what was sure: the names of the last
// SyncDir, with their files' bytes of when they were synced last.
func TestP1005None(t *testing.T) {
	r := rand.New(rand.NewPCG(10, 6))
	for range 2000 {
		w := watchOf(made(t, 100))
		names := map[string]int{}
		for range 1 + r.IntN(60) {
			s := chance(r)
			w.do(t, s)
			if s.call == "dir" {
				names = map[string]int{}
				for name, f := range w.file {
					names[name] = f
				}
			}
		}
		want := []string{}
		for name, f := range names {
			want = append(want, name+"="+strconv.Quote(w.text[f]))
		}
		slices.Sort(want)
		w.d.Crash([][]bool{nil, {}, make([]bool, r.IntN(80))}[r.IntN(3)])
		if got := shown(w.d); got != strings.Join(want, " ") {
			t.Fatalf("%s, want %s", got, want)
		}
	}
}

// P1006

// replace: a new file for the old one, up to the first error.
func replace(d *simdisk.Disk, pieces []string) api.Errno {
	if e := d.Create("new"); e != api.OK {
		return e
	}
	for _, p := range pieces {
		if e := d.Append("new", []byte(p)); e != api.OK {
			return e
		}
	}
	if e := d.Sync("new"); e != api.OK {
		return e
	}
	if e := d.Rename("new", "old"); e != api.OK {
		return e
	}
	return d.SyncDir()
}

// TestP1006OldOrNew: whenever the power goes, and whatever is lost then; and
// behind what was answered OK it is the new one.
func TestP1006OldOrNew(t *testing.T) {
	r := rand.New(rand.NewPCG(10, 7))
	olds, news := 0, 0
	for range 100 {
		pieces := []string{"n"}
		for range r.IntN(4) {
			pieces = append(pieces, "piece"[:r.IntN(6)])
		}
		for k := -1; k <= len(pieces)+4; k++ {
			for _, keep := range append(keeps(6), nil, someKeep(r)) {
				d := made(t, 200)
				for _, s := range steps("create old, append old o, append old ld, sync old, create x, dir, append x x, rename x y") {
					wantE(t, s.call, ask(d, s), api.OK)
				}
				d.Cut(k)
				e := replace(d, pieces)
				d.Crash(keep)
				b, there := d.Read("old")
				old, anew := string(b) == "old", string(b) == strings.Join(pieces, "")
				if there != api.OK || !old && !anew || e == api.OK && !anew {
					t.Fatalf("cut at %d: %q %d behind %d", k, b, there, e)
				}
				if old {
					olds++
				} else {
					news++
				}
			}
		}
	}
	if olds == 0 || news == 0 {
		t.Error(olds, news)
	}
}

// TestP1006Faults: likewise where an operation fails, done or not, and the rest is not asked.
func TestP1006Faults(t *testing.T) {
	for k := 1; k <= 6; k++ {
		for _, done := range []bool{false, true} {
			for _, keep := range keeps(6) {
				d := made(t, 200)
				for _, s := range steps("create old, append old o, append old ld, sync old, dir") {
					wantE(t, s.call, ask(d, s), api.OK)
				}
				d.Fail(k, done)
				e := replace(d, []string{"n", "ew"})
				d.Crash(keep)
				b, there := d.Read("old")
				if there != api.OK || string(b) != "old" && string(b) != "new" || e == api.OK {
					t.Fatalf("fault at %d: %q %d behind %d", k, b, there, e)
				}
			}
		}
	}
}
