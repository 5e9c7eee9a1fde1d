package segment_test

import (
	"fmt"
	"math"
	"math/rand/v2"
	"slices"
	"strings"
	"testing"

	"icehouse/api"
	"icehouse/segment"
	"icehouse/simdisk"
)

const mostID = 1<<40 - 1

// wrongIDs: such as may not be.
var wrongIDs = []int{math.MinInt, -mostID, -1, 0, mostID + 1, mostID + 2, 9999999999999, math.MaxInt}

// name: the id's file.
func name(id int) string { return fmt.Sprintf("seg-%013d", id) }

func disk(t *testing.T, quota int) *simdisk.Disk {
	t.Helper()
	d, e := simdisk.New(quota)
	if e != api.OK {
		t.Fatal(e)
	}
	return d
}

// lay: one more file, all of it sure.
func lay(t *testing.T, d *simdisk.Disk, name, text string) {
	t.Helper()
	wantE(t, "Create "+name, d.Create(name), api.OK)
	wantE(t, "Append", d.Append(name, []byte(text)), api.OK)
	wantE(t, "Sync", d.Sync(name), api.OK)
	wantE(t, "SyncDir", d.SyncDir(), api.OK)
}

// has: all files of a disk, and what they have, as a text.
func has(d *simdisk.Disk) string {
	var out []string
	for _, name := range d.List() {
		b, e := d.Read(name)
		out = append(out, fmt.Sprintf("%s %q %d", name, b, e))
	}
	return strings.Join(out, ", ")
}

func wantRead(t *testing.T, what string, d *simdisk.Disk, id int, want string, wantE api.Errno) {
	t.Helper()
	if b, e := segment.Read(d, id); string(b) != want || e != wantE {
		t.Errorf("%s: Read(%d): %q %d, want %q %d", what, id, b, e, want, wantE)
	}
}

func wantIds(t *testing.T, what string, d *simdisk.Disk, wantE api.Errno, want ...int) {
	t.Helper()
	if ids, e := segment.Ids(d); !slices.Equal(ids, want) || e != wantE {
		t.Errorf("%s: Ids: %v %d, want %v %d", what, ids, e, want, wantE)
	}
}

// pair: two disks, which the same befalls. On one of them the package is at
// work, on the other one the document's steps are done.
type pair struct {
	t         *testing.T
	d, beside *simdisk.Disk
}

func pairOf(t *testing.T, quota int) *pair {
	t.Helper()
	return &pair{t, disk(t, quota), disk(t, quota)}
}

// do: on both.
func (p *pair) do(f func(d *simdisk.Disk)) {
	f(p.d)
	f(p.beside)
}

// same: whether both have the same, and have done as many operations.
func (p *pair) same(what string, got, want api.Errno) api.Errno {
	p.t.Helper()
	wantE(p.t, what, got, want)
	if a, b := has(p.d), has(p.beside); a != b || p.d.Down() != p.beside.Down() {
		p.t.Errorf("%s: there is %s, want %s; without power: %v", what, a, b, p.d.Down())
	}
	return want
}

func (p *pair) write(id int, b string) api.Errno {
	p.t.Helper()
	return p.same(fmt.Sprintf("Write(%d)", id), segment.Write(p.d, id, []byte(b)), writeBeside(p.beside, id, b))
}

func writeBeside(d *simdisk.Disk, id int, b string) api.Errno {
	if slices.Contains(d.List(), name(id)) {
		return api.ErrThere
	}
	if slices.Contains(d.List(), "seg.tmp") {
		if e := d.Remove("seg.tmp"); e != api.OK {
			return e
		}
		if e := d.SyncDir(); e != api.OK {
			return e
		}
	}
	if e := d.Create("seg.tmp"); e != api.OK {
		return e
	}
	if e := d.Append("seg.tmp", []byte(b)); e != api.OK {
		return e
	}
	if e := d.Sync("seg.tmp"); e != api.OK {
		return e
	}
	if e := d.Rename("seg.tmp", name(id)); e != api.OK {
		return e
	}
	return d.SyncDir()
}

func (p *pair) remove(id int) api.Errno {
	p.t.Helper()
	want := p.beside.Remove(name(id))
	if want == api.OK {
		want = p.beside.SyncDir()
	}
	return p.same(fmt.Sprintf("Remove(%d)", id), segment.Remove(p.d, id), want)
}

// looks: Read of each id, and Ids.
func (p *pair) looks(what string, ids ...int) {
	p.t.Helper()
	if p.beside.Down() {
		wantIds(p.t, what, p.d, api.ErrPower)
	} else {
		var there []int
		for _, id := range ids {
			if slices.Contains(p.beside.List(), name(id)) {
				there = append(there, id)
			}
		}
		wantIds(p.t, what, p.d, api.OK, there...)
	}
	for _, id := range ids {
		b, e := p.beside.Read(name(id))
		wantRead(p.t, what, p.d, id, string(b), e)
	}
}

// P1404

func TestP1404Name(t *testing.T) {
	for id, want := range map[int]string{
		1: "seg-0000000000001", 2: "seg-0000000000002", 10: "seg-0000000000010", 987654321: "seg-0000987654321",
		999999999999: "seg-0999999999999", 1000000000000: "seg-1000000000000", mostID - 1: "seg-1099511627774", mostID: "seg-1099511627775",
	} {
		if got := segment.Name(id); got != want {
			t.Errorf("Name(%d): %q, want %q", id, got, want)
		}
	}
	for _, id := range wrongIDs {
		if got := segment.Name(id); got != "" {
			t.Errorf("Name(%d): %q", id, got)
		}
	}
}

// TestP1404NoDisk: no disk, one that nobody made, whatever id; and ids that may not be, whatever the disk.
func TestP1404NoDisk(t *testing.T) {
	off := disk(t, 100)
	off.Cut(0)
	wantE(t, "SyncDir", off.SyncDir(), api.ErrPower)
	on := disk(t, 100)
	lay(t, on, name(1), "some")
	refused, _ := simdisk.New(0)
	for _, c := range []struct {
		d   *simdisk.Disk
		ids []int
	}{
		{nil, append([]int{1, 2, mostID}, wrongIDs...)}, {&simdisk.Disk{}, append([]int{1, 2, mostID}, wrongIDs...)}, {refused, []int{0, 1}},
		{on, wrongIDs}, {off, wrongIDs},
	} {
		before := has(c.d)
		for _, id := range c.ids {
			for _, b := range [][]byte{nil, {}, []byte("some"), make([]byte, api.MaxBytes+1)} {
				wantE(t, "Write", segment.Write(c.d, id, b), api.ErrArg)
			}
			wantRead(t, "no disk, or no id", c.d, id, "", api.ErrArg)
			wantE(t, "Remove", segment.Remove(c.d, id), api.ErrArg)
			if c.d == nil || c.d == refused {
				wantIds(t, "no disk", c.d, api.ErrArg)
			}
		}
		if has(c.d) != before {
			t.Errorf("there is %s, want %s", has(c.d), before)
		}
	}
	wantIds(t, "a disk that nobody made", &simdisk.Disk{}, api.ErrArg)
	wantIds(t, "no power", off, api.ErrPower)
	wantIds(t, "a disk", on, api.OK, 1)
}

// TestP1404Files: written, read, removed, of the least id and of the greatest, of any bytes.
func TestP1404Files(t *testing.T) {
	p := pairOf(t, api.MaxBytes)
	p.looks("empty", 1, 2, mostID)
	texts := map[int]string{mostID: "", 1: "some", 77: "\x00\xff", 2: string(planOf(few()).bytes()), 1000000000000: strings.Repeat("x", 5000)}
	ids := []int{1, 2, 77, 1000000000000, mostID}
	for id, text := range texts {
		wantE(t, "Write", p.write(id, text), api.OK)
		wantRead(t, "written", p.d, id, text, api.OK)
		p.looks("written", ids...)
		for _, other := range []string{text, "other", ""} {
			wantE(t, "Write again", p.write(id, other), api.ErrThere)
		}
	}
	wantIds(t, "all", p.d, api.OK, ids...)
	p.do(func(d *simdisk.Disk) { d.Crash(nil) })
	p.looks("behind a crash", ids...)
	for id, text := range texts {
		wantRead(t, "behind a crash", p.d, id, text, api.OK)
		wantE(t, "Remove", p.remove(id), api.OK)
		wantE(t, "Remove again", p.remove(id), api.ErrNone)
		wantRead(t, "removed", p.d, id, "", api.ErrNone)
		p.looks("removed", ids...)
		p.do(func(d *simdisk.Disk) { d.Crash(nil) })
		wantRead(t, "removed, behind a crash", p.d, id, "", api.ErrNone)
		wantE(t, "Write again", p.write(id, "again"), api.OK)
		wantE(t, "Remove again", p.remove(id), api.OK)
	}
	wantIds(t, "nothing", p.d, api.OK)
}

// TestP1404OtherFiles: which are no segment's.
func TestP1404OtherFiles(t *testing.T) {
	p := pairOf(t, api.MaxBytes)
	others := []string{
		"seg.tmp", "seg-", "seg", "seg-1", "seg-000000000001", "seg-00000000000001", "seg-0000000000000", "seg-1099511627776", "seg-9999999999999",
		"seg-000000000000a", "seg-+000000000001", "seg--000000000001", "seg-0_00000000001", "Seg-0000000000001", "xseg-0000000000001", "seg-0000000000001x",
		"seg_0000000000001", "wal-0000000000001", "wal-0000000001", "manifest", "0000000000001", "seg-0x00000000001", "seg-1e00000000000",
	}
	p.do(func(d *simdisk.Disk) {
		for _, name := range others {
			lay(t, d, name, "of "+name)
		}
	})
	wantIds(t, "others alone", p.d, api.OK)
	for _, id := range []int{5, 1, mostID, 3} {
		wantE(t, "Write", p.write(id, "some"), api.OK)
	}
	wantIds(t, "beside others", p.d, api.OK, 1, 3, 5, mostID)
	wantE(t, "Remove", p.remove(3), api.OK)
	p.looks("beside others", 1, 2, 3, 5, mostID)
	for _, name := range others[1:] {
		if b, e := p.d.Read(name); string(b) != "of "+name || e != api.OK {
			t.Errorf("%s: %q %d", name, b, e)
		}
	}
}

// TestP1404Faults: a fault at each operation of Write and of Remove, done and
// not done, with and without a seg.tmp; and then the same once more.
func TestP1404Faults(t *testing.T) {
	for _, tmp := range []bool{false, true} {
		for k := range 10 {
			for _, done := range []bool{false, true} {
				p := pairOf(t, 1000)
				p.do(func(d *simdisk.Disk) {
					lay(t, d, name(1), "one")
					if tmp {
						lay(t, d, "seg.tmp", "lies there")
					}
					d.Fail(k, done)
				})
				steps := 5
				if tmp {
					steps = 7
				}
				want := api.OK
				if k > 0 && k <= steps {
					want = api.ErrFault
				}
				wantE(t, "Write", p.write(2, "two"), want)
				p.looks("Write", 1, 2)
				p.do(func(d *simdisk.Disk) { d.Fail(0, false) })
				if there := slices.Contains(p.beside.List(), name(2)); there {
					wantE(t, "Write again", p.write(2, "two"), api.ErrThere)
				} else {
					wantE(t, "Write again", p.write(2, "two"), api.OK)
				}
				wantRead(t, "Write again", p.d, 2, "two", api.OK)
				p.do(func(d *simdisk.Disk) { d.Fail(k, done) })
				want = api.OK
				if k == 1 || k == 2 {
					want = api.ErrFault
				}
				wantE(t, "Remove", p.remove(1), want)
				p.looks("Remove", 1, 2)
				p.do(func(d *simdisk.Disk) { d.Fail(0, false) })
				p.remove(1)
				wantIds(t, "Remove again", p.d, api.OK, 2)
			}
		}
	}
}

// TestP1404Power: it is off, or goes at each operation.
func TestP1404Power(t *testing.T) {
	for _, tmp := range []bool{false, true} {
		for k := range 9 {
			p := pairOf(t, 1000)
			p.do(func(d *simdisk.Disk) {
				lay(t, d, name(1), "one")
				if tmp {
					lay(t, d, "seg.tmp", "lies there")
				}
				d.Cut(k)
			})
			p.write(2, "two")
			p.remove(1)
			p.remove(1)
			p.looks("the power went", 1, 2)
			p.do(func(d *simdisk.Disk) { d.Cut(0); d.SyncDir() })
			for range 2 { // it stays off
				wantE(t, "Write", p.write(9, "nine"), api.ErrPower)
				wantE(t, "Remove", p.remove(9), api.ErrPower)
				wantRead(t, "no power", p.d, 9, "", api.ErrPower)
				wantRead(t, "no power", p.d, 1, "", api.ErrPower)
				wantIds(t, "no power", p.d, api.ErrPower)
			}
			p.do(func(d *simdisk.Disk) { d.Crash([]bool{true, true, true, true, true, true}) })
			p.looks("the power is on", 1, 2, 9)
			wantE(t, "Write", p.write(9, "nine"), api.OK)
		}
	}
	// The file that is there is told first.
	p := pairOf(t, 100)
	p.write(1, "one")
	p.do(func(d *simdisk.Disk) { d.Cut(0); d.SyncDir() })
	wantE(t, "Write", p.write(1, "one"), api.ErrThere)
}

// TestP1404Full: no room for the bytes, or for one file more.
func TestP1404Full(t *testing.T) {
	p := pairOf(t, 10)
	wantE(t, "Write", p.write(1, "12345678"), api.OK)
	for range 2 { // seg.tmp lies there then, and goes ahead of the next one
		wantE(t, "Write", p.write(2, "123"), api.ErrFull)
		p.looks("full", 1, 2)
	}
	wantE(t, "Write", p.write(2, "12"), api.OK)
	wantE(t, "Write", p.write(3, ""), api.OK)
	wantE(t, "Write", p.write(4, "1"), api.ErrFull)
	wantE(t, "Remove", p.remove(1), api.OK)
	wantE(t, "Write", p.write(4, "12345678"), api.OK)
	p = pairOf(t, api.MaxBytes)
	p.do(func(d *simdisk.Disk) {
		for n := range api.MaxFiles - 1 {
			d.Create(fmt.Sprint("other", n))
		}
	})
	wantE(t, "Write", p.write(1, "one"), api.OK)
	wantE(t, "Write", p.write(2, "two"), api.ErrFull)
	p.looks("no file more", 1, 2)
	wantE(t, "Write", p.write(1, "one"), api.ErrThere)
}

// keeps: what a crash keeps: this and that, or all, or nothing.
func keeps(r *rand.Rand) []bool {
	keep := make([]bool, r.IntN(20))
	what := r.IntN(3)
	for i := range keep {
		keep[i] = what == 0 || what == 1 && r.IntN(2) == 0
	}
	return keep
}

// TestP1404Random: many calls, faults, cuts and crashes, as the document's steps would have it.
func TestP1404Random(t *testing.T) {
	r := rand.New(rand.NewPCG(14, 3))
	for range 500 {
		p := pairOf(t, []int{20, 100, 1000}[r.IntN(3)])
		for range 40 {
			id := 1 + r.IntN(5)
			switch n := r.IntN(12); {
			case p.beside.Down() && n < 6:
				keep := keeps(r)
				p.do(func(d *simdisk.Disk) { d.Crash(keep) })
			case n == 0:
				k, done := r.IntN(9), r.IntN(2) == 0
				p.do(func(d *simdisk.Disk) { d.Fail(k, done) })
			case n == 1:
				k := r.IntN(9)
				p.do(func(d *simdisk.Disk) { d.Cut(k) })
			case n < 5:
				p.remove(id)
			default:
				p.write(id, strings.Repeat(fmt.Sprint(id), r.IntN(20)))
			}
			p.looks("any", 1, 2, 3, 4, 5)
		}
		if t.Failed() {
			t.FailNow()
		}
	}
}

// P1406

// masks: each way in which a crash may keep and lose six things.
func masks() [][]bool {
	var out [][]bool
	for n := range 64 {
		var keep []bool
		for bit := range 6 {
			keep = append(keep, n>>bit&1 == 1)
		}
		out = append(out, keep)
	}
	return out
}

// wantWhole: the id's file is not there, which may be only if it need not, or has all its bytes.
func wantWhole(t *testing.T, what string, d *simdisk.Disk, id int, text string, must bool) {
	t.Helper()
	b, e := segment.Read(d, id)
	if must && e != api.OK || e == api.OK && string(b) != text || e != api.OK && e != api.ErrNone {
		t.Fatalf("%s: the file of %d: %q %d, want %q", what, id, b, e, text)
	}
}

// TestP1406Write: a crash at each operation of a Write, and at each one of the
// next one's, whatever is kept.
func TestP1406Write(t *testing.T) {
	gone, there := 0, 0
	for _, tmp := range []bool{false, true} {
		for k := range 8 {
			for _, keep := range masks() {
				d := disk(t, 1000)
				lay(t, d, name(1), "one")
				lay(t, d, "other", "else")
				if tmp {
					lay(t, d, "seg.tmp", "lies there, longer than others")
				}
				d.Cut(k)
				first := segment.Write(d, 2, []byte("two, all of it"))
				d.Crash(keep)
				wantWhole(t, "the first", d, 2, "two, all of it", first == api.OK)
				wantWhole(t, "another one", d, 1, "one", true)
				if _, e := segment.Read(d, 2); e == api.OK {
					there++
				} else {
					gone++
				}
				d.Cut(k * 3 % 8)
				second := segment.Write(d, 3, []byte("three"))
				d.Crash(keep[3:])
				wantWhole(t, "the first, later", d, 2, "two, all of it", first == api.OK)
				wantWhole(t, "the second", d, 3, "three", second == api.OK)
				wantWhole(t, "another one", d, 1, "one", true)
				if b, e := d.Read("other"); string(b) != "else" || e != api.OK {
					t.Fatalf("another file: %q %d", b, e)
				}
			}
		}
	}
	if gone == 0 || there == 0 {
		t.Error("it was always there, or never: ", there, gone)
	}
}

// TestP1406Remove: a crash at each operation of a Remove.
func TestP1406Remove(t *testing.T) {
	for k := range 4 {
		for _, keep := range masks() {
			d := disk(t, 1000)
			for id, text := range map[int]string{1: "one", 2: "two", 3: "three"} {
				wantE(t, "Write", segment.Write(d, id, []byte(text)), api.OK)
			}
			d.Cut(k)
			e := segment.Remove(d, 2)
			d.Crash(keep)
			wantWhole(t, "removed", d, 2, "two", false)
			if _, there := segment.Read(d, 2); e == api.OK && there != api.ErrNone {
				t.Fatalf("it came back: %d", there)
			}
			wantWhole(t, "another one", d, 1, "one", true)
			wantWhole(t, "another one", d, 3, "three", true)
			wantE(t, "Remove", segment.Remove(d, 1), api.OK)
			d.Crash(keep)
			wantRead(t, "removed", d, 1, "", api.ErrNone)
			wantWhole(t, "another one", d, 3, "three", true)
		}
	}
}

// TestP1406Lives: Write behind Write and Remove, of many lives: the power goes
// wherever, this and that is kept, and an id has always the same bytes.
func TestP1406Lives(t *testing.T) {
	r := rand.New(rand.NewPCG(14, 4))
	text := func(id int) string { return strings.Repeat(fmt.Sprint(id), 3+id) }
	for range 300 {
		d, must := disk(t, api.MaxBytes), map[int]bool{}
		asked := map[int]bool{}
		for range 20 {
			if r.IntN(3) > 0 {
				d.Cut(r.IntN(30))
			}
			for range 8 {
				if d.Down() {
					break
				}
				id := 1 + r.IntN(6)
				if r.IntN(3) == 0 {
					must[id] = false
					if segment.Remove(d, id) == api.OK {
						asked[id] = false
					}
					continue
				}
				e := segment.Write(d, id, []byte(text(id)))
				if e == api.ErrThere {
					continue
				}
				must[id], asked[id] = e == api.OK, true
			}
			if d.Down() || r.IntN(2) == 0 {
				d.Crash(keeps(r))
			}
			for id := range 7 {
				if id == 0 || d.Down() {
					continue
				}
				wantWhole(t, "lives", d, id, text(id), must[id])
				if _, e := segment.Read(d, id); e == api.OK && !asked[id] {
					t.Fatalf("%d came back", id)
				}
			}
			d.Cut(-1)
		}
	}
}
