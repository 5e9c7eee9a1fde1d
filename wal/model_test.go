package wal_test

import (
	"fmt"
	"slices"
	"strconv"
	"strings"
	"testing"

	"icehouse/api"
	"icehouse/codec"
	"icehouse/record"
	"icehouse/simdisk"
	"icehouse/wal"
)

// entry: one whose labels and line tell its number, and which of several with it it is.
func entry(seq, which int) api.Entry {
	n := strconv.Itoa(seq) + "." + strconv.Itoa(which)
	return api.Entry{Seq: seq, Time: (seq*7 + which) % 100, Labels: []api.Label{{Name: "a", Value: n}, {Name: "b", Value: "y"}}, Line: "line " + n}
}

// run: the batch of the numbers from first to last.
func run(first, last int) []api.Entry { return runOf(first, last, 0) }

func runOf(first, last, which int) []api.Entry {
	var l []api.Entry
	for seq := first; seq <= last; seq++ {
		l = append(l, entry(seq, which))
	}
	return l
}

// frame: the batch as it must stand in a segment.
func frame(l []api.Entry) string {
	b, e := record.PutBatch(l)
	if e != api.OK {
		panic("no batch")
	}
	return framed(1, string(b))
}

func framed(kind int, in string) string {
	f, e := codec.Frame(kind, []byte(in))
	if e != api.OK {
		panic("no frame")
	}
	return string(f)
}

// told: entries as a text.
func told(l []api.Entry) string {
	var out []string
	for _, x := range l {
		out = append(out, fmt.Sprintf("%d@%d%q%q", x.Seq, x.Time, x.Labels, x.Line))
	}
	return strings.Join(out, " ")
}

func toldBatches(l [][]api.Entry) string {
	var out []string
	for _, b := range l {
		out = append(out, told(b))
	}
	return strings.Join(out, " | ")
}

func seqs(l []api.Entry) string {
	var out []string
	for _, x := range l {
		out = append(out, strconv.Itoa(x.Seq))
	}
	return strings.Join(out, " ")
}

func wantE(t *testing.T, what string, got, want api.Errno) {
	t.Helper()
	if got != want {
		t.Errorf("%s: %d, want %d", what, got, want)
	}
}

func disk(t *testing.T, quota int) *simdisk.Disk {
	t.Helper()
	d, e := simdisk.New(quota)
	if e != api.OK {
		t.Fatal(e)
	}
	return d
}

// file: a name, and what it has.
type file struct{ name, text string }

// laid: a disk with these files, all sure.
func laid(t *testing.T, files ...file) *simdisk.Disk {
	t.Helper()
	d := disk(t, api.MaxBytes)
	for _, f := range files {
		wantE(t, "Create "+f.name, d.Create(f.name), api.OK)
		wantE(t, "Append", d.Append(f.name, []byte(f.text)), api.OK)
		wantE(t, "Sync", d.Sync(f.name), api.OK)
	}
	wantE(t, "SyncDir", d.SyncDir(), api.OK)
	return d
}

// open: a log that must be opened, and must tell these numbers.
func open(t *testing.T, d *simdisk.Disk, size, most int, want string) *wal.Log {
	t.Helper()
	w, l, e := wal.Open(d, size, most)
	if w == nil || e != api.OK || seqs(l) != want {
		t.Fatalf("Open: %v %q %d, want %q", w != nil, seqs(l), e, want)
	}
	return w
}

// mustAppend: a batch that must be appended.
func mustAppend(t *testing.T, w *wal.Log, l []api.Entry) {
	t.Helper()
	if e := w.Append(l); e != api.OK {
		t.Fatalf("Append(%s): %d", seqs(l), e)
	}
}

func wantLooks(t *testing.T, what string, w *wal.Log, segments, last int) {
	t.Helper()
	if w.Segments() != segments || w.Last() != last {
		t.Errorf("%s: %d segments, last %d, want %d, %d", what, w.Segments(), w.Last(), segments, last)
	}
}

func isSegment(name string) bool {
	return len(name) == 14 && name[:4] == "wal-" && strings.IndexFunc(name[4:], func(r rune) bool { return r < '0' || r > '9' }) < 0
}

// segments: the names of the disk's segments, rising.
func segments(d *simdisk.Disk) []string {
	return slices.DeleteFunc(d.List(), func(name string) bool { return !isSegment(name) })
}

// texts: what the disk's segments have, by rising numbers. (Which numbers they have nobody says.)
func texts(t *testing.T, d *simdisk.Disk) []string {
	t.Helper()
	out := []string{}
	for _, name := range segments(d) {
		b, e := d.Read(name)
		if e != api.OK {
			t.Fatalf("Read %s: %d", name, e)
		}
		out = append(out, string(b))
	}
	return out
}

// wantTexts: what the segments must have.
func wantTexts(t *testing.T, what string, d *simdisk.Disk, want ...string) {
	t.Helper()
	if got := texts(t, d); !slices.Equal(got, want) {
		t.Errorf("%s: segments %q, want %q", what, got, want)
	}
}

// leaf: a segment as the model keeps it.
type leaf struct {
	name   string
	bytes  int
	in     []api.Entry
	mine   bool
	spoilt bool
}

// model: a log that does the document's steps on a disk of its own, and keeps all entries.
type model struct {
	d                *simdisk.Disk
	size, most, last int
	leaves           []*leaf
}

// scan: the batches at b's beginning.
func scan(b []byte) [][]api.Entry {
	kind, in, n, e := codec.Unframe(b)
	if e != api.OK || kind != 1 {
		return nil
	}
	l, e := record.GetBatch(in)
	if e != api.OK {
		return nil
	}
	return append([][]api.Entry{l}, scan(b[n:])...)
}

func openModel(d *simdisk.Disk, size, most int) (*model, []api.Entry, api.Errno) {
	if d.Down() {
		return nil, nil, api.ErrPower
	}
	m := &model{d: d, size: size, most: most}
	for _, name := range segments(d) {
		if e := d.Sync(name); e != api.OK {
			return nil, nil, e
		}
		m.leaves = append(m.leaves, &leaf{name: name})
	}
	if len(m.leaves) > 0 {
		if e := d.SyncDir(); e != api.OK {
			return nil, nil, e
		}
	}
	var all []api.Entry
	for _, s := range m.leaves {
		b, _ := d.Read(s.name)
		for _, l := range scan(b) {
			s.in = append(s.in, l...)
			for _, x := range l {
				if !slices.ContainsFunc(all, func(y api.Entry) bool { return y.Seq == x.Seq }) {
					all = append(all, x)
					m.last = max(m.last, x.Seq)
				}
			}
		}
	}
	return m, all, api.OK
}

func (m *model) append(l []api.Entry) api.Errno {
	b, e := record.PutBatch(l)
	if e != api.OK {
		return api.ErrArg
	}
	f, _ := codec.Frame(1, b)
	e = m.write(f, l)
	if e != api.ErrBusy && e != api.ErrFull {
		m.last = max(m.last, l[len(l)-1].Seq)
	}
	return e
}

func (m *model) write(f []byte, l []api.Entry) api.Errno {
	var s *leaf
	if n := len(m.leaves); n > 0 {
		s = m.leaves[n-1]
	}
	if s == nil || !s.mine || s.spoilt || s.bytes >= m.size {
		if len(m.leaves) >= m.most {
			return api.ErrBusy
		}
		var e api.Errno
		if s, e = m.begin(); e != api.OK {
			return e
		}
	}
	e := m.d.Append(s.name, f)
	if e == api.ErrFull {
		return e
	}
	s.in = append(s.in, l...)
	s.bytes += len(f)
	if e == api.OK {
		e = m.d.Sync(s.name)
	}
	s.spoilt = e != api.OK
	return e
}

func (m *model) begin() (*leaf, api.Errno) {
	number := 1
	if n := len(m.leaves); n > 0 {
		number, _ = strconv.Atoi(m.leaves[n-1].name[4:])
		number++
	}
	s := &leaf{name: fmt.Sprintf("wal-%010d", number), mine: true}
	e := m.d.Create(s.name)
	if e == api.OK {
		e = m.d.SyncDir()
	}
	s.spoilt = e != api.OK
	if slices.Contains(m.d.List(), s.name) {
		m.leaves = append(m.leaves, s)
	}
	return s, e
}

func (m *model) truncate(seq int) api.Errno {
	if seq < 0 {
		return api.ErrArg
	}
	gone := 0
	for len(m.leaves) > 0 && !slices.ContainsFunc(m.leaves[0].in, func(x api.Entry) bool { return x.Seq > seq }) {
		e := m.d.Remove(m.leaves[0].name)
		if !slices.Contains(m.d.List(), m.leaves[0].name) {
			m.leaves = m.leaves[1:]
			gone++
		}
		if e != api.OK {
			return e
		}
	}
	if gone == 0 {
		return api.OK
	}
	return m.d.SyncDir()
}

// twin: a log, and its model, each on a disk of its own, which befalls the
// same; both must answer the same, and leave the same behind.
type twin struct {
	t *testing.T
	d *simdisk.Disk
	w *wal.Log
	m *model
}

func twinOf(t *testing.T, quota int) *twin {
	t.Helper()
	return &twin{t, disk(t, quota), nil, &model{d: disk(t, quota)}}
}

// open: both are opened; on an error there is no log.
func (w *twin) open(size, most int) api.Errno {
	w.t.Helper()
	log, l, e := wal.Open(w.d, size, most)
	m, want, wantE := openModel(w.m.d, size, most)
	if e != wantE || told(l) != told(want) || (log != nil) != (e == api.OK) {
		w.t.Errorf("Open(%d, %d): %s %d, want %s %d", size, most, told(l), e, told(want), wantE)
	}
	if m == nil {
		m = &model{d: w.m.d}
	}
	w.w, w.m = log, m
	w.looks()
	return e
}

func (w *twin) append(l []api.Entry) api.Errno {
	w.t.Helper()
	e, want := w.w.Append(l), w.m.append(l)
	if e != want {
		w.t.Errorf("Append(%s): %d, want %d", seqs(l), e, want)
	}
	w.looks()
	return e
}

func (w *twin) truncate(seq int) api.Errno {
	w.t.Helper()
	e, want := w.w.Truncate(seq), w.m.truncate(seq)
	if e != want {
		w.t.Errorf("Truncate(%d): %d, want %d", seq, e, want)
	}
	w.looks()
	return e
}

func (w *twin) fail(k int, done bool) {
	w.d.Fail(k, done)
	w.m.d.Fail(k, done)
}

func (w *twin) cut(k int) {
	w.d.Cut(k)
	w.m.d.Cut(k)
}

// crash: what was not sure is kept or lost; the logs of that day are over.
func (w *twin) crash(keep []bool) {
	w.t.Helper()
	w.d.Crash(keep)
	w.m.d.Crash(keep)
	w.w, w.m = nil, &model{d: w.m.d}
	w.looks()
}

// looks: both tell the same, and their disks have the same.
func (w *twin) looks() {
	w.t.Helper()
	wantLooks(w.t, "looks", w.w, len(w.m.leaves), w.m.last)
	if w.d.Down() != w.m.d.Down() {
		w.t.Fatalf("the power is off: %v", w.d.Down())
	}
	if !w.d.Down() {
		wantTexts(w.t, "looks", w.d, texts(w.t, w.m.d)...)
	}
}
