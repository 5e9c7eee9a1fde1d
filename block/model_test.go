package block_test

import (
	"encoding/binary"
	"fmt"
	"hash/crc32"
	"math"
	"regexp"
	"slices"
	"strconv"
	"strings"
	"testing"

	"icehouse/api"
	"icehouse/block"
	"icehouse/planner"
	"icehouse/segment"
	"icehouse/simobj"
)

const (
	// most: the greatest of ids, and of most other numbers.
	most    = 1<<40 - 1
	mostSum = 1<<32 - 1
	kind    = 8
)

// wrongIDs: such as may not be.
var wrongIDs = []int{math.MinInt, -most, -1, 0, most + 1, most + 2, 9999999999999, math.MaxInt}

// wrongLevels: likewise.
var wrongLevels = []int{math.MinInt, -1, 21, 22, math.MaxInt}

func wantE(t *testing.T, what string, got, want api.Errno) {
	t.Helper()
	if got != want {
		t.Errorf("%s: %d, want %d", what, got, want)
	}
}

// store: one whose lists may lag by 100.
func store(t *testing.T) *simobj.Store {
	t.Helper()
	s, e := simobj.New(100)
	if e != api.OK {
		t.Fatal(e)
	}
	return s
}

// has: all objects of a store, as a text.
func has(s *simobj.Store) string {
	var out []string
	for _, key := range s.Keys() {
		b, _ := s.Look(key)
		out = append(out, fmt.Sprintf("%s %q", key, b))
	}
	return strings.Join(out, ", ")
}

// lay: one more object.
func lay(t *testing.T, s *simobj.Store, key string, b []byte) {
	t.Helper()
	wantE(t, "Put "+key, s.Put(key, b), api.OK)
}

// entries: so many, of the numbers behind first.
func entries(first, n int) []api.Entry {
	var l []api.Entry
	for i := range n {
		l = append(l, api.Entry{Seq: first + i, Time: 7 * (first + i) % 50, Labels: []api.Label{{Name: "a", Value: strconv.Itoa(i % 3)}}, Line: fmt.Sprintf("line %d", i)})
	}
	return l
}

// data: a segment's bytes, others for each n.
func data(t *testing.T, n int) []byte {
	t.Helper()
	b, e := segment.Encode(entries(n+1, n%5+1))
	if e != api.OK {
		t.Fatal(e)
	}
	return b
}

// number: as the document says, without asking whether it may be.
func number(n int) []byte { return binary.AppendUvarint(nil, uint64(n)) }

// long: the same number, with a byte more than need be.
func long(n int) []byte {
	b := number(n)
	b[len(b)-1] |= 128
	return append(b, 0)
}

func text(b []byte) []byte { return append(number(len(b)), b...) }

func sum(b []byte) int { return int(crc32.Checksum(b, crc32.MakeTable(crc32.Castagnoli))) }

// frame: with its right sum.
func frame(kind int, in []byte) []byte {
	summed := slices.Concat([]byte{byte(kind)}, text(in))
	head := append([]byte{0xa5}, summed[:len(summed)-len(in)]...)
	return append(binary.BigEndian.AppendUint32(head, uint32(sum(summed))), in...)
}

// noEntries: what would be the bytes of a segment without entries.
func noEntries() []byte {
	index := frame(3, number(0))
	return append(index, frame(4, slices.Concat(number(0), number(0), number(sum(index))))...)
}

// numbers: of a Meta, in the order in which they are written.
func numbers(m planner.Meta) []int {
	return []int{m.ID, m.Least, m.Most - m.Least, m.First, m.Last - m.First, m.Rows, m.Bytes, m.Level}
}

// within: what is in a meta's frame, whether it may be or not.
func within(m planner.Meta, sum int) []byte {
	var b []byte
	for _, n := range numbers(m) {
		b = append(b, number(n)...)
	}
	return append(text(b), number(sum)...)
}

// metaBytes: likewise a meta's bytes.
func metaBytes(m planner.Meta, sum int) []byte { return frame(kind, within(m, sum)) }

// in: whether least to most have it.
func in(n, least, most int) bool { return least <= n && n <= most }

func rightID(id int) bool { return in(id, 1, most) }

// mayBe: of a Meta, as chapter 9 says it.
func mayBe(m planner.Meta) bool {
	return rightID(m.ID) && in(m.Least, 0, m.Most) && in(m.Most, 0, most) && in(m.First, 1, m.Last) && in(m.Last, 1, most) &&
		in(m.Rows, 1, most) && in(m.Bytes, 0, most) && in(m.Level, 0, 20)
}

func dataKey(id int) string { return fmt.Sprintf("data/%013d", id) }

func metaKey(id int) string { return fmt.Sprintf("meta/%013d", id) }

var keyForm = regexp.MustCompile(`\A(data|meta)/([0-9]{13})\z`)

// idOf: of a key.
func idOf(key string) (id int, meta, ok bool) {
	parts := keyForm.FindStringSubmatch(key)
	if parts == nil {
		return 0, false, false
	}
	id, err := strconv.Atoi(parts[2])
	if err != nil || !rightID(id) {
		return 0, false, false
	}
	return id, parts[1] == "meta", true
}

// twin: two stores, which the same befalls. On one of them the package is at
// work, on the other one the document's steps are done.
type twin struct {
	t         *testing.T
	s, beside *simobj.Store
}

func twinOf(t *testing.T) *twin {
	t.Helper()
	return &twin{t, store(t), store(t)}
}

// do: on both.
func (w *twin) do(f func(s *simobj.Store)) {
	f(w.s)
	f(w.beside)
}

// same: whether both were answered the same, have the same, and were called as often.
func (w *twin) same(what string, got, want string) {
	w.t.Helper()
	if got != want {
		w.t.Errorf("%s: %.1000s, want %.1000s", what, got, want)
	}
	if a, b := has(w.s), has(w.beside); a != b || w.s.Calls() != w.beside.Calls() || w.s.Now() != w.beside.Now() {
		w.t.Errorf("%s: there is %.2000s, want %.2000s; %d calls, want %d", what, a, b, w.s.Calls(), w.beside.Calls())
	}
}

// describe: the Meta of a segment's bytes, as P1603 says it.
func describe(id, level int, b []byte) (planner.Meta, api.Errno) {
	if !rightID(id) {
		return planner.Meta{}, api.ErrArg
	}
	part, e := segment.Decode(b)
	if e != api.OK {
		return planner.Meta{}, api.ErrForm
	}
	m := planner.Meta{ID: id, Least: most, First: most, Rows: part.Rows(), Bytes: len(b), Level: level}
	for _, x := range part.Entries() {
		m.Least, m.Most = min(m.Least, x.Time), max(m.Most, x.Time)
		m.First, m.Last = min(m.First, x.Seq), max(m.Last, x.Seq)
	}
	if !mayBe(m) {
		return planner.Meta{}, api.ErrArg
	}
	return m, api.OK
}

// put: an Upload, or a Commit.
func (w *twin) put(what string, call func(s *simobj.Store, id, level int, b []byte) (planner.Meta, api.Errno), id, level int, b, object []byte, key string) api.Errno {
	w.t.Helper()
	want, wantE := describe(id, level, b)
	if wantE == api.OK {
		wantE = w.beside.Put(key, object)
	}
	if wantE != api.OK {
		want = planner.Meta{}
	}
	got, e := call(w.s, id, level, b)
	w.same(fmt.Sprintf("%s(%d, %d, %.40q)", what, id, level, b), fmt.Sprint(got, e), fmt.Sprint(want, wantE))
	return wantE
}

func (w *twin) upload(id, level int, b []byte) api.Errno {
	w.t.Helper()
	return w.put("Upload", block.Upload, id, level, b, b, dataKey(id))
}

func (w *twin) commit(id, level int, b []byte) api.Errno {
	w.t.Helper()
	m, _ := describe(id, level, b)
	return w.put("Commit", block.Commit, id, level, b, metaBytes(m, sum(b)), metaKey(id))
}

// readBeside: as P1603 says it. What is a meta, and what it says, is told by
// what would be written for each Meta that may be there.
func readBeside(s *simobj.Store, id int) (planner.Meta, []byte, api.Errno) {
	if !rightID(id) {
		return planner.Meta{}, nil, api.ErrArg
	}
	b, e := s.Get(metaKey(id))
	if e != api.OK {
		return planner.Meta{}, nil, e
	}
	m, sumOf, ok := metaOf(b)
	if !ok || m.ID != id {
		return planner.Meta{}, nil, api.ErrForm
	}
	b, e = s.Get(dataKey(id))
	if e != api.OK {
		return planner.Meta{}, nil, e
	}
	if len(b) != m.Bytes || sum(b) != sumOf {
		return planner.Meta{}, nil, api.ErrForm
	}
	return m, b, api.OK
}

// metaOf: what a meta's bytes say: right, where the same is written for it again.
func metaOf(b []byte) (planner.Meta, int, bool) {
	var n []int
	for rest := b[min(len(b), 8):]; len(rest) > 0; {
		x, size := binary.Uvarint(rest)
		if size <= 0 {
			return planner.Meta{}, 0, false
		}
		n, rest = append(n, int(x)), rest[size:]
	}
	if len(n) != 9 {
		return planner.Meta{}, 0, false
	}
	m := planner.Meta{ID: n[0], Least: n[1], Most: n[1] + n[2], First: n[3], Last: n[3] + n[4], Rows: n[5], Bytes: n[6], Level: n[7]}
	if !mayBe(m) || !in(n[8], 0, mostSum) || string(metaBytes(m, n[8])) != string(b) {
		return planner.Meta{}, 0, false
	}
	return m, n[8], true
}

func (w *twin) read(id int) api.Errno {
	w.t.Helper()
	want, wantB, wantE := readBeside(w.beside, id)
	got, b, e := block.Read(w.s, id)
	w.same(fmt.Sprintf("Read(%d)", id), fmt.Sprintf("%v %q %d", got, b, e), fmt.Sprintf("%v %q %d", want, wantB, wantE))
	return wantE
}

func (w *twin) delete(id int) api.Errno {
	w.t.Helper()
	want := api.ErrArg
	if rightID(id) {
		want = w.beside.Delete(metaKey(id))
		if want == api.OK {
			want = w.beside.Delete(dataKey(id))
		}
	}
	w.same(fmt.Sprintf("Delete(%d)", id), fmt.Sprint(block.Delete(w.s, id)), fmt.Sprint(want))
	return want
}

func (w *twin) list() []int {
	w.t.Helper()
	l, wantE := w.beside.List("")
	var want []int
	for _, key := range l {
		if id, _, ok := idOf(key); ok && !slices.Contains(want, id) {
			want = append(want, id)
		}
	}
	slices.Sort(want)
	got, e := block.List(w.s)
	w.same("List", fmt.Sprint(got, e), fmt.Sprint(want, wantE))
	return want
}
