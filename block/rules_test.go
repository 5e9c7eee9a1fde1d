package block_test

import (
	"fmt"
	"math"
	"math/rand/v2"
	"runtime"
	"slices"
	"strings"
	"testing"

	"icehouse/api"
	"icehouse/block"
	"icehouse/planner"
	"icehouse/simobj"
)

// wantArg: each call of the store answers ErrArg, and nothing beside it.
func wantArg(t *testing.T, what string, s *simobj.Store, id, level int, b []byte) {
	t.Helper()
	if m, e := block.Upload(s, id, level, b); m != (planner.Meta{}) || e != api.ErrArg {
		t.Errorf("%s: Upload(%d, %d): %v %d", what, id, level, m, e)
	}
	if m, e := block.Commit(s, id, level, b); m != (planner.Meta{}) || e != api.ErrArg {
		t.Errorf("%s: Commit(%d, %d): %v %d", what, id, level, m, e)
	}
	if m, b, e := block.Read(s, id); m != (planner.Meta{}) || len(b) > 0 || e != api.ErrArg {
		t.Errorf("%s: Read(%d): %v %q %d", what, id, m, b, e)
	}
	wantE(t, fmt.Sprintf("%s: Delete(%d)", what, id), block.Delete(s, id), api.ErrArg)
}

// P1601

// TestP1601NobodyMade: no store, and one that New did not make, whatever else is handed in.
func TestP1601NobodyMade(t *testing.T) {
	refused, _ := simobj.New(-1)
	for _, s := range []*simobj.Store{nil, {}, new(simobj.Store), refused} {
		for range 2 { // it stays so, whatever was called
			for _, id := range append([]int{1, 5, most}, wrongIDs...) {
				for _, level := range append([]int{0, 20}, wrongLevels...) {
					for _, b := range [][]byte{data(t, 1), nil, []byte("some"), noEntries()} {
						wantArg(t, "no store", s, id, level, b)
					}
				}
			}
			wantArg(t, "no store", s, 1, 0, make([]byte, api.MaxBytes+1))
			if ids, e := block.List(s); len(ids) > 0 || e != api.ErrArg {
				t.Errorf("List: %v %d", ids, e)
			}
		}
	}
}

// TestP1601WrongIDs: ids that may not be, whatever else is handed in: no call of the store, and nothing changes.
func TestP1601WrongIDs(t *testing.T) {
	s := store(t)
	lay(t, s, "other", []byte("some"))
	for _, id := range []int{1, 2, most} {
		lay(t, s, dataKey(id), data(t, 1))
		lay(t, s, metaKey(id), data(t, 1))
	}
	s.Fail(1, true)
	before, calls := has(s), s.Calls()
	for _, id := range wrongIDs {
		for _, level := range append([]int{0, 20}, wrongLevels...) {
			for _, b := range append(wrongData(t), data(t, 1)) {
				wantArg(t, "no id", s, id, level, b)
			}
		}
	}
	if has(s) != before || s.Calls() != calls {
		t.Errorf("there is %.1000s, want %.1000s; %d calls", has(s), before, s.Calls()-calls)
	}
	if _, e := block.List(s); e != api.ErrFault {
		t.Error("the fault is gone: ", e)
	}
}

// TestP1601AnyArguments: whatever is called ends, and answers as the document says.
func TestP1601AnyArguments(t *testing.T) {
	r := rand.New(rand.NewPCG(16, 8))
	edges := []int{math.MinInt, math.MinInt + 1, -1, 0, 1, 2, 20, 21, mostSum, mostSum + 1, most, most + 1, 1 << 56, math.MaxInt - 1, math.MaxInt}
	edge := func() int { return edges[r.IntN(len(edges))] }
	w := twinOf(t)
	handed := append(wrongData(t), data(t, 1), data(t, 2), data(t, 3))
	for range 5000 {
		id, level := edge(), edge()
		b := handed[r.IntN(len(handed))]
		w.upload(id, level, b)
		w.commit(id, level, b)
		w.read(id)
		if r.IntN(3) == 0 {
			w.delete(id)
		}
		w.list()
		if data, meta := block.Data(id), block.Meta(id); rightID(id) != (data == dataKey(id)) || rightID(id) != (meta == metaKey(id)) || !rightID(id) && data+meta != "" {
			t.Error(id, data, meta)
		}
		m := planner.Meta{ID: edge(), Least: edge(), Most: edge(), First: edge(), Last: edge(), Rows: edge(), Bytes: edge(), Level: edge()}
		sum := edge()
		wantMeta(t, "any", m, sum, mayBe(m) && in(sum, 0, mostSum))
		text := make([]byte, r.IntN(40))
		for i := range text {
			text[i] = byte(edge())
		}
		wantNone(t, "any", text)
		wantID(t, string(text), 0, false, false)
		if t.Failed() {
			t.FailNow()
		}
	}
	wantID(t, strings.Repeat("data/", 1<<20), 0, false, false)
	wantID(t, "meta/"+strings.Repeat("0", 1<<22), 0, false, false)
	wantNone(t, "huge", make([]byte, 1<<24))
}

// TestP1601SameAgain: the same of the same.
func TestP1601SameAgain(t *testing.T) {
	r := rand.New(rand.NewPCG(16, 9))
	for range 1000 {
		m, sum, id := anyMeta(r), r.IntN(mostSum+2), r.IntN(most+2)
		if r.IntN(4) == 0 {
			m.Level = 21
		}
		tell := func(b []byte) string {
			got, gotSum, e := block.GetMeta(b)
			again, e2 := block.PutMeta(m, sum)
			gotID, meta, ok := block.ID(block.Meta(id))
			otherID, other, some := block.ID(block.Data(id) + string(b))
			return fmt.Sprint(got, gotSum, e, again, e2, gotID, meta, ok, otherID, other, some, block.Data(id), block.Meta(id))
		}
		b, _ := block.PutMeta(m, sum)
		want := tell(b)
		for range 3 {
			block.PutMeta(some(), 7)
			block.Data(id - 1)
			if got := tell(b); got != want {
				t.Fatalf("it was %s, now it is %s", want, got)
			}
		}
	}
}

// TestP1601NothingIsChanged: what is handed in, and the room behind it, stays as it was.
func TestP1601NothingIsChanged(t *testing.T) {
	for _, text := range []string{"", "some", string(data(t, 1)), string(data(t, 3)[1:]), string(noEntries()), string(metaBytes(some(), 7)), string(metaBytes(some(), 7)[1:])} {
		s := store(t)
		roomy := append([]byte(text), "behind"...)
		b := roomy[:len(text)]
		for range 2 {
			block.GetMeta(b)
			block.Upload(s, 1, 0, b)
			block.Commit(s, 1, 0, b)
			block.Upload(s, 1, 21, b)
			_, got, _ := block.Read(s, 1)
			spoil(got)
			block.Delete(s, 1)
		}
		if string(roomy) != text+"behind" {
			t.Errorf("changed: %q", roomy)
		}
	}
}

// spoil: all that lies in the bytes' memory is overwritten, the room behind them too.
func spoil(b []byte) {
	b = b[:cap(b)]
	for i := range b {
		b[i] = 0xee
	}
}

// TestP1601NothingIsKept: what was handed in may be changed then.
func TestP1601NothingIsKept(t *testing.T) {
	w, want := twinOf(t), data(t, 3)
	b := append(slices.Clone(want), "behind"...)[:len(want)]
	wantE(t, "Upload", w.upload(5, 1, b), api.OK)
	wantE(t, "Commit", w.commit(5, 1, b), api.OK)
	before := has(w.s)
	spoil(b)
	if has(w.s) != before {
		t.Errorf("there is %s, want %s", has(w.s), before)
	}
	wantE(t, "Read", w.read(5), api.OK)
	meta := metaBytes(some(), 7)
	m, sum, e := block.GetMeta(meta)
	spoil(meta)
	if m != some() || sum != 7 || e != api.OK {
		t.Error(m, sum, e)
	}
}

// TestP1601AnswersAreNew: what was answered may be changed, the room behind it
// too: other answers stay, and so does the store.
func TestP1601AnswersAreNew(t *testing.T) {
	w, b := twinOf(t), data(t, 3)
	for _, id := range []int{3, 5, 9} {
		w.upload(id, 1, b)
		w.commit(id, 1, b)
	}
	_, got, _ := block.Read(w.s, 5)
	ids, _ := block.List(w.s)
	put, _ := block.PutMeta(some(), 7)
	for range 2 {
		_, other, _ := block.Read(w.s, 5)
		spoil(other)
		more, _ := block.List(w.s)
		more = more[:cap(more)]
		for i := range more {
			more[i] = 77
		}
		again, _ := block.PutMeta(some(), 7)
		spoil(again)
		if string(got) != string(b) || !slices.Equal(ids, []int{3, 5, 9}) || string(put) != string(metaBytes(some(), 7)) {
			t.Fatal(got, ids, put)
		}
	}
	spoil(got)
	spoil(put)
	for range 3 { // as often as the other store was not asked
		w.beside.Get(metaKey(5))
		w.beside.Get(dataKey(5))
		w.beside.List("")
	}
	wantE(t, "Read", w.read(5), api.OK)
	w.list()
	wantMeta(t, "spoilt", some(), 7, true)
}

// heap: how many bytes are kept.
func heap() int {
	runtime.GC()
	var m runtime.MemStats
	runtime.ReadMemStats(&m)
	return int(m.HeapAlloc)
}

// TestP1601KeepsNoMore: the calls keep nothing, but the store its objects.
func TestP1601KeepsNoMore(t *testing.T) {
	s, b := store(t), data(t, 4)
	ahead := heap()
	for i := range 3000 {
		id := 1 + i%7
		block.Upload(s, id, 1, b)
		block.Commit(s, id, 1, b)
		block.Read(s, id)
		block.List(s)
		block.Upload(s, id, 1, b[1:])
		block.ID(block.Meta(i))
		meta, _ := block.PutMeta(planner.Meta{ID: i, First: 1, Last: i, Rows: 1}, i)
		block.GetMeta(meta)
		block.Delete(s, id)
		s.Tick(1)
	}
	if more := heap() - ahead; more > 1<<20 {
		t.Errorf("%d bytes more are kept", more)
	}
	runtime.KeepAlive(s)
	runtime.KeepAlive(b)
}
