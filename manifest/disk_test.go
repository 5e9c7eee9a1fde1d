package manifest_test

import (
	"fmt"
	"math/rand/v2"
	"slices"
	"strings"
	"testing"

	"icehouse/api"
	"icehouse/manifest"
	"icehouse/simdisk"
)

func disk(t *testing.T, quota int) *simdisk.Disk {
	t.Helper()
	d, e := simdisk.New(quota)
	if e != api.OK {
		t.Fatal(e)
	}
	return d
}

// lay: one more file, all of it sure.
func lay(t *testing.T, d *simdisk.Disk, name, text string) {
	t.Helper()
	wantE(t, "Create "+name, d.Create(name), api.OK)
	wantE(t, "Append", d.Append(name, []byte(text)), api.OK)
	wantE(t, "Sync", d.Sync(name), api.OK)
	wantE(t, "SyncDir", d.SyncDir(), api.OK)
}

// has: all files of a disk, and what they have, as a text.
func has(d *simdisk.Disk) string {
	var out []string
	for _, name := range d.List() {
		b, e := d.Read(name)
		out = append(out, fmt.Sprintf("%s %q %d", name, b, e))
	}
	return strings.Join(out, ", ")
}

func wantLoad(t *testing.T, what string, d *simdisk.Disk, want manifest.State, wantE api.Errno) {
	t.Helper()
	if s, e := manifest.Load(d); told(s) != told(want) || e != wantE {
		t.Fatalf("%s: Load: %.1000s %d, want %.1000s %d", what, told(s), e, told(want), wantE)
	}
}

// nth: States that are small, and each another one.
func nth(n int) manifest.State {
	s := manifest.State{Next: 1000 + n, Sure: n, Seq: 100 + n}
	for id := 1; id <= n%4; id++ {
		s.Marks = append(s.Marks, manifest.Mark{ID: id + n, At: n})
	}
	return s
}

// pair: two disks, which the same befalls. On one of them the package is at
// work, on the other one the document's steps are done.
type pair struct {
	t         *testing.T
	d, beside *simdisk.Disk
}

func pairOf(t *testing.T, quota int) *pair {
	t.Helper()
	return &pair{t, disk(t, quota), disk(t, quota)}
}

// do: on both.
func (p *pair) do(f func(d *simdisk.Disk)) {
	f(p.d)
	f(p.beside)
}

func (p *pair) save(s manifest.State) api.Errno {
	p.t.Helper()
	want := saveBeside(p.beside, s)
	wantE(p.t, "Save", manifest.Save(p.d, s), want)
	p.looks("Save")
	return want
}

func saveBeside(d *simdisk.Disk, s manifest.State) api.Errno {
	if !mayBe(s) {
		return api.ErrArg
	}
	if slices.Contains(d.List(), "manifest.tmp") {
		if e := d.Remove("manifest.tmp"); e != api.OK {
			return e
		}
		if e := d.SyncDir(); e != api.OK {
			return e
		}
	}
	if e := d.Create("manifest.tmp"); e != api.OK {
		return e
	}
	if e := d.Append("manifest.tmp", bytesOf(s)); e != api.OK {
		return e
	}
	if e := d.Sync("manifest.tmp"); e != api.OK {
		return e
	}
	if e := d.Rename("manifest.tmp", "manifest"); e != api.OK {
		return e
	}
	return d.SyncDir()
}

// looks: whether both disks have the same, and what Load tells of it.
func (p *pair) looks(what string) {
	p.t.Helper()
	if a, b := has(p.d), has(p.beside); a != b || p.d.Down() != p.beside.Down() {
		p.t.Fatalf("%s: there is %s, want %s; without power: %v", what, a, b, p.d.Down())
	}
	b, e := p.beside.Read("manifest")
	switch {
	case e == api.ErrNone:
		wantLoad(p.t, what, p.d, first(), api.OK)
	case e != api.OK:
		wantLoad(p.t, what, p.d, manifest.State{}, e)
	default:
		s, e := manifest.Get(b)
		wantLoad(p.t, what, p.d, s, e)
	}
}

// P1503

// TestP1503Example: of the chapter.
func TestP1503Example(t *testing.T) {
	d := disk(t, 100)
	if s, e := manifest.Load(d); s.Next != 1 || e != api.OK {
		t.Error(s, e)
	}
	wantLoad(t, "an empty disk", d, first(), api.OK)
	if has(d) != "" {
		t.Error("Load made a file")
	}
}

// TestP1503Load: of files that are a State's bytes, and of such as are not.
func TestP1503Load(t *testing.T) {
	for _, s := range several() {
		d := disk(t, api.MaxBytes)
		lay(t, d, "manifest", string(bytesOf(s)))
		lay(t, d, "manifest.tmp", "some")
		wantLoad(t, "several", d, s, api.OK)
		wantLoad(t, "once more", d, s, api.OK)
	}
	right := string(bytesOf(some()))
	wrong := manifest.State{Next: 5, Sure: 1}
	for _, text := range []string{"", "\x00", "some", right[1:], right[:len(right)-1], right + "\x00", right + right, string(bytesOf(wrong)), string(bytesOf(manifest.State{})), string(frame(8, slices.Concat(pieces(some())...)))} {
		d := disk(t, api.MaxBytes)
		lay(t, d, "manifest", text)
		wantLoad(t, "no State's bytes", d, manifest.State{}, api.ErrForm)
		wantE(t, "Save", manifest.Save(d, some()), api.OK)
		wantLoad(t, "it is saved", d, some(), api.OK)
	}
	// Files with other names are none of it.
	d := disk(t, api.MaxBytes)
	for _, name := range []string{"manifest.tmp", "Manifest", "manifest1", "manifes", "xmanifest", "seg.tmp", "manifest."} {
		lay(t, d, name, right)
	}
	wantLoad(t, "other files", d, first(), api.OK)
	// What is not synced is told, too.
	wantE(t, "Create", d.Create("manifest"), api.OK)
	wantLoad(t, "created", d, manifest.State{}, api.ErrForm)
	wantE(t, "Append", d.Append("manifest", []byte(right)), api.OK)
	wantLoad(t, "appended", d, some(), api.OK)
	d.Crash(nil)
	wantLoad(t, "lost", d, first(), api.OK)
}

// TestP1503LoadFaults: Load is no operation, so none of them fails or is counted.
func TestP1503LoadFaults(t *testing.T) {
	for k := range 4 {
		for _, done := range []bool{false, true} {
			p := pairOf(t, 10000)
			p.do(func(d *simdisk.Disk) { d.Fail(k, done) })
			wantLoad(t, "a fault", p.d, first(), api.OK)
			wantLoad(t, "a fault", p.d, first(), api.OK)
			p.do(func(d *simdisk.Disk) { d.Fail(0, false) })
			wantE(t, "Save", p.save(some()), api.OK)
			p.do(func(d *simdisk.Disk) { d.Fail(k, done) })
			wantLoad(t, "a fault", p.d, some(), api.OK)
			wantLoad(t, "a fault", p.d, some(), api.OK)
			p.save(nth(1))
			p.do(func(d *simdisk.Disk) { d.Fail(0, false); d.Cut(k) })
			p.looks("a fuse")
			p.looks("a fuse")
			p.save(nth(2))
			p.looks("a fuse went")
		}
	}
}

func TestP1503LoadPower(t *testing.T) {
	for _, there := range []bool{false, true} {
		d := disk(t, 10000)
		want := first()
		if there {
			wantE(t, "Save", manifest.Save(d, some()), api.OK)
			want = some()
		}
		d.Cut(0)
		wantLoad(t, "the power is on", d, want, api.OK)
		wantE(t, "SyncDir", d.SyncDir(), api.ErrPower)
		for range 3 {
			wantLoad(t, "the power is off", d, manifest.State{}, api.ErrPower)
		}
		d.Crash(nil)
		wantLoad(t, "the power is on again", d, want, api.OK)
	}
}

// TestP1503Save: with and without manifest there, and manifest.tmp.
func TestP1503Save(t *testing.T) {
	for _, old := range []string{"-", "", "old", string(bytesOf(full())), string(bytesOf(nth(3)))} {
		for _, tmp := range []string{"-", "", "lies there", string(bytesOf(nth(2)))} {
			for _, s := range []manifest.State{first(), some(), full(), nth(3)} {
				p := pairOf(t, api.MaxBytes)
				p.do(func(d *simdisk.Disk) {
					lay(t, d, "other", "else")
					if old != "-" {
						lay(t, d, "manifest", old)
					}
					if tmp != "-" {
						lay(t, d, "manifest.tmp", tmp)
					}
				})
				for range 2 {
					wantE(t, "Save", p.save(s), api.OK)
					if want := fmt.Sprintf("manifest %q 0, other \"else\" 0", bytesOf(s)); has(p.d) != want {
						t.Fatalf("there is %s, want %s", has(p.d), want)
					}
				}
				p.do(func(d *simdisk.Disk) { d.Crash(nil) })
				wantLoad(t, "behind a crash", p.d, s, api.OK)
				p.looks("behind a crash")
			}
		}
	}
}

// TestP1503Wrong: a State that may not be changes nothing, whatever befalls the disk.
func TestP1503Wrong(t *testing.T) {
	wrongs := []manifest.State{{}, {Next: -1}, {Next: 1, Sure: 1}, {Next: 1, Marks: []manifest.Mark{{ID: 1}}}, {Next: most + 1}}
	for _, s := range wrongs {
		for _, tmp := range []bool{false, true} {
			p := pairOf(t, 1000)
			p.do(func(d *simdisk.Disk) {
				lay(t, d, "manifest", "old")
				if tmp {
					lay(t, d, "manifest.tmp", "lies there")
				}
				d.Fail(1, true)
				d.Cut(0)
			})
			wantE(t, "Save", p.save(s), api.ErrArg)
			p.do(func(d *simdisk.Disk) { d.Cut(-1) })
			wantE(t, "Save", p.save(s), api.ErrArg)
			wantE(t, "the fault is there", p.d.SyncDir(), api.ErrFault)
			p.do(func(d *simdisk.Disk) { d.Cut(0); d.SyncDir() })
			wantE(t, "without power", p.save(s), api.ErrArg)
		}
	}
}

// TestP1503Faults: a fault at each operation, done and not done; then once more.
func TestP1503Faults(t *testing.T) {
	for _, old := range []bool{false, true} {
		for _, tmp := range []bool{false, true} {
			for k := range 10 {
				for _, done := range []bool{false, true} {
					p := pairOf(t, 1000)
					p.do(func(d *simdisk.Disk) {
						if old {
							lay(t, d, "manifest", string(bytesOf(nth(1))))
						}
						if tmp {
							lay(t, d, "manifest.tmp", "lies there")
						}
						d.Fail(k, done)
					})
					steps, want := 5, api.OK
					if tmp {
						steps = 7
					}
					if k > 0 && k <= steps {
						want = api.ErrFault
					}
					wantE(t, "Save", p.save(nth(2)), want)
					if k == 0 || k > steps {
						wantLoad(t, "no fault", p.d, nth(2), api.OK)
					}
					p.do(func(d *simdisk.Disk) { d.Fail(0, false) })
					wantE(t, "Save again", p.save(nth(3)), api.OK)
					wantLoad(t, "Save again", p.d, nth(3), api.OK)
					if l := p.d.List(); !slices.Equal(l, []string{"manifest"}) {
						t.Fatal(l)
					}
				}
			}
		}
	}
}

// TestP1503Power: it is off, or goes at each operation.
func TestP1503Power(t *testing.T) {
	for _, old := range []bool{false, true} {
		for _, tmp := range []bool{false, true} {
			for k := range 10 {
				p := pairOf(t, 1000)
				p.do(func(d *simdisk.Disk) {
					if old {
						lay(t, d, "manifest", string(bytesOf(nth(1))))
					}
					if tmp {
						lay(t, d, "manifest.tmp", "lies there")
					}
					d.Cut(k)
				})
				steps, want := 5, api.OK
				if tmp {
					steps = 7
				}
				if k < steps {
					want = api.ErrPower
				}
				wantE(t, "Save", p.save(nth(2)), want)
				p.do(func(d *simdisk.Disk) { d.Cut(0); d.SyncDir() })
				for range 2 { // it stays off
					wantE(t, "Save", p.save(nth(3)), api.ErrPower)
				}
				p.do(func(d *simdisk.Disk) { d.Crash([]bool{true, true, true, true, true, true}) })
				p.looks("the power is on")
				wantE(t, "Save", p.save(nth(3)), api.OK)
			}
		}
	}
}

// TestP1503Full: no room for the bytes, or for one file more.
func TestP1503Full(t *testing.T) {
	size := len(bytesOf(some()))
	for _, quota := range []int{size, size - 1} {
		p := pairOf(t, quota)
		want := api.OK
		if quota < size {
			want = api.ErrFull
		}
		for range 2 { // what lies there goes ahead of the next one
			wantE(t, "Save", p.save(some()), want)
			p.do(func(d *simdisk.Disk) { d.Crash(nil) })
			p.looks("behind a crash")
			if want == api.OK {
				p.do(func(d *simdisk.Disk) { d.Remove("manifest") })
			}
		}
	}
	// The old one has its room till the new one is there.
	for _, quota := range []int{2 * size, 2*size - 1} {
		p := pairOf(t, quota)
		wantE(t, "Save", p.save(some()), api.OK)
		for range 3 {
			want := api.OK
			if quota < 2*size {
				want = api.ErrFull
			}
			wantE(t, "Save", p.save(some()), want)
			wantLoad(t, "full", p.d, some(), api.OK)
		}
	}
	// The room of what lies there is free for the new one.
	p := pairOf(t, size)
	p.do(func(d *simdisk.Disk) { lay(t, d, "manifest.tmp", strings.Repeat("x", size)) })
	wantE(t, "Save", p.save(some()), api.OK)
	// So is its name.
	for _, others := range []int{api.MaxFiles - 2, api.MaxFiles - 1, api.MaxFiles} {
		p := pairOf(t, 10000)
		p.do(func(d *simdisk.Disk) {
			for n := range others {
				d.Create(fmt.Sprint("other", n))
			}
		})
		want := map[bool]api.Errno{true: api.OK, false: api.ErrFull}[others < api.MaxFiles]
		wantE(t, "Save", p.save(some()), want)
		want = map[bool]api.Errno{true: api.OK, false: api.ErrFull}[others < api.MaxFiles-1]
		wantE(t, "Save again", p.save(nth(1)), want)
		p.do(func(d *simdisk.Disk) { d.Remove("other0"); d.Create("manifest.tmp") })
		p.save(nth(2))
	}
}

// keeps: what a crash keeps: this and that, or all, or nothing.
func keeps(r *rand.Rand) []bool {
	keep := make([]bool, r.IntN(20))
	what := r.IntN(3)
	for i := range keep {
		keep[i] = what == 0 || what == 1 && r.IntN(2) == 0
	}
	return keep
}

// TestP1503Random: many Saves, faults, cuts and crashes, as the document's steps would have it.
func TestP1503Random(t *testing.T) {
	r := rand.New(rand.NewPCG(15, 5))
	for range 500 {
		p := pairOf(t, []int{60, 100, 1000}[r.IntN(3)])
		for range 40 {
			switch n := r.IntN(12); {
			case p.beside.Down() && n < 6:
				keep := keeps(r)
				p.do(func(d *simdisk.Disk) { d.Crash(keep) })
			case n == 0:
				k, done := r.IntN(9), r.IntN(2) == 0
				p.do(func(d *simdisk.Disk) { d.Fail(k, done) })
			case n == 1:
				k := r.IntN(9)
				p.do(func(d *simdisk.Disk) { d.Cut(k) })
			case n == 2:
				p.do(func(d *simdisk.Disk) { d.Create("manifest.tmp"); d.Append("manifest.tmp", []byte("some")) })
			case n == 3:
				p.do(func(d *simdisk.Disk) { d.Remove("manifest") })
			case n == 4:
				p.save(manifest.State{Next: r.IntN(2), Sure: r.IntN(2)})
			default:
				p.save(nth(r.IntN(30)))
			}
			p.looks("any")
		}
	}
}

// P1504

// masks: each way in which a crash may keep and lose six things.
func masks() [][]bool {
	var out [][]bool
	for n := range 64 {
		var keep []bool
		for bit := range 6 {
			keep = append(keep, n>>bit&1 == 1)
		}
		out = append(out, keep)
	}
	return out
}

// life: a disk, what Load told of it ahead of the last Save, and which that was.
type life struct {
	t           *testing.T
	d           *simdisk.Disk
	ahead, last manifest.State
	ok          bool
}

func newLife(t *testing.T, quota int) *life {
	t.Helper()
	return &life{t: t, d: disk(t, quota), ahead: first(), last: first(), ok: true}
}

func (l *life) save(s manifest.State) {
	l.t.Helper()
	ahead, e := manifest.Load(l.d)
	wantE(l.t, "Load", e, api.OK)
	l.ahead, l.last = ahead, s
	l.ok = manifest.Save(l.d, s) == api.OK
}

// crash: and what Load tells then: whether it is what the last Save had.
func (l *life) crash(keep []bool) bool {
	l.t.Helper()
	l.d.Crash(keep)
	s, e := manifest.Load(l.d)
	isLast, isAhead := told(s) == told(l.last), told(s) == told(l.ahead)
	if e != api.OK || !isLast && (l.ok || !isAhead) {
		l.t.Fatalf("%v: Load: %s %d; ahead it was %s, and then %s (%v)", keep, told(s), e, told(l.ahead), told(l.last), l.ok)
	}
	return isLast
}

// TestP1504Crash: at each operation of the first Save, of the next one, of the third.
func TestP1504Crash(t *testing.T) {
	was := map[bool]int{}
	for _, tmp := range []bool{false, true} {
		for k := range 16 {
			for _, keep := range masks() {
				l := newLife(t, 1000)
				lay(t, l.d, "other", "else")
				if tmp {
					lay(t, l.d, "manifest.tmp", string(bytesOf(nth(50))))
				}
				l.d.Cut(k)
				for n := 1; n <= 3 && !l.d.Down(); n++ {
					l.save(nth(n))
				}
				was[l.crash(keep)]++
				l.d.Cut(k * 3 % 8)
				l.save(nth(7))
				was[l.crash(keep[3:])]++
				l.crash(keep) // one that befalls nothing changes nothing
				l.save(nth(8))
				if !l.ok || !l.crash(keep) {
					t.Fatal("what was saved is not there")
				}
				if b, e := l.d.Read("other"); string(b) != "else" || e != api.OK {
					t.Fatalf("another file: %q %d", b, e)
				}
			}
		}
	}
	if was[true] < 500 || was[false] < 500 {
		t.Error("it was always the new one, or the old one: ", was)
	}
}

// TestP1504Fault: at each operation, and then the power goes.
func TestP1504Fault(t *testing.T) {
	for k := range 8 {
		for _, done := range []bool{false, true} {
			for _, keep := range masks() {
				l := newLife(t, 1000)
				l.save(nth(1))
				l.d.Fail(k, done)
				l.save(nth(2))
				if l.ok != (k == 0 || k > 5) {
					t.Fatal(k, l.ok)
				}
				l.crash(keep)
				l.d.Fail(k, done)
				l.save(nth(3))
				l.d.Fail(0, false)
				l.save(nth(4))
				if !l.ok || !l.crash(keep) {
					t.Fatal("what was saved is not there")
				}
			}
		}
	}
}

// TestP1504Lives: Save behind Save, of many lives: the power goes wherever, and this and that is kept.
func TestP1504Lives(t *testing.T) {
	r := rand.New(rand.NewPCG(15, 6))
	for range 400 {
		l := newLife(t, []int{80, 300, api.MaxBytes}[r.IntN(3)])
		for range 20 {
			if r.IntN(3) > 0 {
				l.d.Cut(r.IntN(25))
			}
			for range 1 + r.IntN(6) {
				if !l.d.Down() {
					s := nth(r.IntN(40))
					if l.d.Used() > 1000 || r.IntN(10) == 0 {
						s = some()
					}
					l.save(s)
				}
			}
			l.crash(keeps(r))
		}
	}
}
