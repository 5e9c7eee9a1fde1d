package block_test

import (
	"fmt"
	"math/rand/v2"
	"slices"
	"strings"
	"testing"

	"icehouse/api"
	"icehouse/block"
	"icehouse/planner"
	"icehouse/segment"
	"icehouse/simobj"
)

// wrongData: bytes that are none of a segment.
func wrongData(t *testing.T) [][]byte {
	b := data(t, 3)
	flipped := slices.Clone(b)
	flipped[len(b)/2] ^= 1
	return [][]byte{
		nil, {}, {0}, []byte("some"), noEntries(), b[:len(b)-1], b[1:], append(slices.Clone(b), 0), append(slices.Clone(b), b...), flipped,
		slices.Repeat([]byte{0xa5}, api.MaxBytes), make([]byte, api.MaxBytes+1), metaBytes(some(), 7),
	}
}

// P1603

// TestP1603Put: Upload and Commit of a segment's bytes: the answer, and what is there.
func TestP1603Put(t *testing.T) {
	for n := range 12 {
		b := data(t, n)
		for _, id := range []int{1, 2, 10, 1 << 39, most} {
			for _, level := range []int{0, 1, 19, 20} {
				w := twinOf(t)
				m, _ := describe(id, level, b)
				wantE(t, "Upload", w.upload(id, level, b), api.OK)
				if want := fmt.Sprintf("%s %q", dataKey(id), b); has(w.s) != want {
					t.Fatalf("there is %s, want %s", has(w.s), want)
				}
				wantE(t, "Commit", w.commit(id, level, b), api.OK)
				if want := fmt.Sprintf("%s %q, %s %q", dataKey(id), b, metaKey(id), metaBytes(m, sum(b))); has(w.s) != want {
					t.Fatalf("there is %s, want %s", has(w.s), want)
				}
				wantE(t, "Read", w.read(id), api.OK)
			}
		}
	}
}

// TestP1603PutExample: a Meta that is written out.
func TestP1603PutExample(t *testing.T) {
	s, b := store(t), data(t, 4)
	want := planner.Meta{ID: 9, Least: 6, Most: 49, First: 5, Last: 9, Rows: 5, Bytes: len(b), Level: 3}
	for what, call := range map[string]func(s *simobj.Store, id, level int, b []byte) (planner.Meta, api.Errno){"Upload": block.Upload, "Commit": block.Commit} {
		if m, e := call(s, 9, 3, b); m != want || e != api.OK {
			t.Errorf("%s: %v %d, want %v", what, m, e, want)
		}
	}
	if m, got, e := block.Read(s, 9); m != want || string(got) != string(b) || e != api.OK {
		t.Errorf("Read: %v %q %d", m, got, e)
	}
	wantE(t, "Delete", block.Delete(s, 9), api.OK)
	if has(s) != "" {
		t.Error(has(s))
	}
}

// TestP1603PutWrong: of bytes that are none, and of ids and levels that may not
// be: the error that is named first, no call, and nothing changes.
func TestP1603PutWrong(t *testing.T) {
	w := twinOf(t)
	w.upload(1, 0, data(t, 1))
	w.commit(1, 0, data(t, 1))
	w.do(func(s *simobj.Store) { s.Fail(1, true) })
	before, calls := has(w.s), w.s.Calls()
	both := func(want api.Errno, id, level int, b []byte) {
		t.Helper()
		wantE(t, "Upload", w.upload(id, level, b), want)
		wantE(t, "Commit", w.commit(id, level, b), want)
		if has(w.s) != before || w.s.Calls() != calls {
			t.Fatal("something has changed")
		}
	}
	for _, b := range wrongData(t) {
		for _, level := range append([]int{0, 7, 20}, wrongLevels...) {
			both(api.ErrForm, 1, level, b)
			both(api.ErrForm, 2, level, b)
			both(api.ErrArg, wrongIDs[0], level, b)
		}
	}
	for _, id := range wrongIDs {
		for _, level := range append([]int{0, 20}, wrongLevels...) {
			both(api.ErrArg, id, level, data(t, 1))
			both(api.ErrArg, id, level, nil)
		}
	}
	for _, level := range wrongLevels {
		both(api.ErrArg, 1, level, data(t, 1))
		both(api.ErrArg, most, level, data(t, 2))
	}
	wantE(t, "the fault is there", w.s.Put("a", nil), api.ErrFault)
}

// TestP1603PutThere: what is there already becomes what is put.
func TestP1603PutThere(t *testing.T) {
	for _, there := range [][]byte{nil, []byte("some"), data(t, 1), data(t, 2), metaBytes(some(), 7), make([]byte, api.MaxBytes)} {
		w := twinOf(t)
		w.do(func(s *simobj.Store) {
			lay(t, s, dataKey(5), there)
			lay(t, s, metaKey(5), there)
			lay(t, s, dataKey(6), there)
		})
		wantE(t, "Upload", w.upload(5, 1, data(t, 1)), api.OK)
		wantE(t, "Commit", w.commit(5, 1, data(t, 1)), api.OK)
		wantE(t, "Read", w.read(5), api.OK)
		wantE(t, "Upload of others", w.upload(5, 2, data(t, 2)), api.OK)
		wantE(t, "Read", w.read(5), api.ErrForm)
		wantE(t, "Commit of others", w.commit(5, 2, data(t, 2)), api.OK)
		wantE(t, "Read", w.read(5), api.OK)
	}
}

// TestP1603PutFull: no room for one object more.
func TestP1603PutFull(t *testing.T) {
	w := twinOf(t)
	w.do(func(s *simobj.Store) {
		for n := range api.MaxObject - 1 {
			lay(t, s, fmt.Sprint("other/", n), nil)
		}
	})
	b := data(t, 1)
	wantE(t, "Upload", w.upload(1, 0, b), api.OK)
	wantE(t, "Upload again", w.upload(1, 0, b), api.OK)
	wantE(t, "Upload", w.upload(2, 0, b), api.ErrFull)
	wantE(t, "Commit", w.commit(1, 0, b), api.ErrFull)
	wantE(t, "Commit of no segment", w.commit(1, 0, nil), api.ErrForm)
	w.do(func(s *simobj.Store) { s.Delete("other/7") })
	wantE(t, "Commit", w.commit(1, 0, b), api.OK)
	wantE(t, "Commit again", w.commit(1, 0, b), api.OK)
	wantE(t, "Read", w.read(1), api.OK)
	wantE(t, "Commit", w.commit(2, 0, b), api.ErrFull)
}

// TestP1603PutLarge: as many bytes as a segment may have.
func TestP1603PutLarge(t *testing.T) {
	var b []byte
	for n := 1000; ; n++ {
		l := entries(1, n)
		for i := range l {
			l[i].Line = strings.Repeat("u", 1000)
		}
		more, e := segment.Encode(l)
		if e != api.OK {
			break
		}
		b = more
	}
	if len(b) < api.MaxBytes-2000 {
		t.Fatal(len(b))
	}
	w := twinOf(t)
	wantE(t, "Upload", w.upload(1, 0, b), api.OK)
	wantE(t, "Commit", w.commit(1, 0, b), api.OK)
	wantE(t, "Read", w.read(1), api.OK)
	w.do(func(s *simobj.Store) { lay(t, s, dataKey(1), b[:len(b)-1]) })
	wantE(t, "Read", w.read(1), api.ErrForm)
}

// TestP1603Read: of what was uploaded alone, committed, deleted.
func TestP1603Read(t *testing.T) {
	w, b := twinOf(t), data(t, 3)
	wantE(t, "Read of nothing", w.read(5), api.ErrNone)
	w.upload(5, 1, b)
	wantE(t, "Read of what was uploaded alone", w.read(5), api.ErrNone)
	w.commit(5, 1, b)
	wantE(t, "Read", w.read(5), api.OK)
	wantE(t, "Read again", w.read(5), api.OK)
	wantE(t, "Read of another one", w.read(6), api.ErrNone)
	wantE(t, "Read of another one", w.read(4), api.ErrNone)
	for _, id := range wrongIDs {
		wantE(t, "Read of no id", w.read(id), api.ErrArg)
	}
	w.delete(5)
	wantE(t, "Read of what was deleted", w.read(5), api.ErrNone)
	w.commit(5, 1, b)
	wantE(t, "Read of what was committed alone", w.read(5), api.ErrNone)
	w.upload(5, 1, b)
	wantE(t, "Read", w.read(5), api.OK)
}

// TestP1603ReadWrong: of a meta that is none, or another one's, and of data that are not as it says.
func TestP1603ReadWrong(t *testing.T) {
	b := data(t, 3)
	m, _ := describe(5, 1, b)
	with := func(change func(m *planner.Meta)) planner.Meta {
		m := m
		change(&m)
		return m
	}
	right := metaBytes(m, sum(b))
	flipped := slices.Clone(b)
	flipped[len(b)-1] ^= 1
	flippedMeta := slices.Clone(right)
	flippedMeta[9] ^= 1
	wrongMeta := with(func(m *planner.Meta) { m.Level = 21 })
	for what, c := range map[string]struct {
		meta, data []byte // nil: not there
		want       api.Errno
	}{
		"right":                          {right, b, api.OK},
		"another level":                  {metaBytes(with(func(m *planner.Meta) { m.Level = 20 }), sum(b)), b, api.OK},
		"other bounds":                   {metaBytes(with(func(m *planner.Meta) { m.Least, m.Last, m.Rows = 0, 99, 99 }), sum(b)), b, api.OK},
		"data that are no segment":       {metaBytes(with(func(m *planner.Meta) { m.Bytes = 4 }), sum([]byte("some"))), []byte("some"), api.OK},
		"no bytes":                       {metaBytes(with(func(m *planner.Meta) { m.Bytes = 0 }), 0), []byte{}, api.OK},
		"nothing":                        {nil, nil, api.ErrNone},
		"no meta":                        {nil, b, api.ErrNone},
		"no data":                        {right, nil, api.ErrNone},
		"an empty meta":                  {[]byte{}, b, api.ErrForm},
		"an empty meta, no data":         {[]byte{}, nil, api.ErrForm},
		"some meta":                      {[]byte("some"), b, api.ErrForm},
		"the data as the meta":           {b, b, api.ErrForm},
		"a meta that is cut off":         {right[:len(right)-1], b, api.ErrForm},
		"a meta and more":                {append(slices.Clone(right), 0), b, api.ErrForm},
		"a meta with another byte":       {flippedMeta, b, api.ErrForm},
		"another kind":                   {frame(9, within(m, sum(b))), b, api.ErrForm},
		"a Meta that may not be":         {metaBytes(wrongMeta, sum(b)), b, api.ErrForm},
		"another id":                     {metaBytes(with(func(m *planner.Meta) { m.ID = 6 }), sum(b)), b, api.ErrForm},
		"another id, no data":            {metaBytes(with(func(m *planner.Meta) { m.ID = 4 }), sum(b)), nil, api.ErrForm},
		"no data, of no bytes":           {metaBytes(with(func(m *planner.Meta) { m.Bytes = 0 }), 0), nil, api.ErrNone},
		"data that are shorter":          {right, b[:len(b)-1], api.ErrForm},
		"data that are longer":           {right, append(slices.Clone(b), 0), api.ErrForm},
		"no bytes for some":              {right, []byte{}, api.ErrForm},
		"other data":                     {right, flipped, api.ErrForm},
		"another block's data":           {right, data(t, 7), api.ErrForm},
		"another sum":                    {metaBytes(m, sum(b)^1), b, api.ErrForm},
		"a sum of 0":                     {metaBytes(m, 0), b, api.ErrForm},
		"more bytes, the sum fits":       {metaBytes(with(func(m *planner.Meta) { m.Bytes++ }), sum(b)), b, api.ErrForm},
		"less bytes, the sum fits":       {metaBytes(with(func(m *planner.Meta) { m.Bytes-- }), sum(b)), b, api.ErrForm},
		"far more bytes, the sum fits":   {metaBytes(with(func(m *planner.Meta) { m.Bytes = most }), sum(b)), b, api.ErrForm},
		"shorter, the sum is that":       {metaBytes(m, sum(b[:len(b)-1])), b[:len(b)-1], api.ErrForm},
		"longer, the sum is that":        {metaBytes(m, sum(append(slices.Clone(b), 0))), append(slices.Clone(b), 0), api.ErrForm},
		"shorter, the bytes are as many": {metaBytes(with(func(m *planner.Meta) { m.Bytes-- }), sum(b)), b[:len(b)-1], api.ErrForm},
	} {
		w := twinOf(t)
		w.do(func(s *simobj.Store) {
			if c.meta != nil {
				lay(t, s, metaKey(5), c.meta)
			}
			if c.data != nil {
				lay(t, s, dataKey(5), c.data)
			}
			lay(t, s, dataKey(6), b)
			lay(t, s, "meta/5", right)
		})
		before := has(w.s)
		for range 2 {
			wantE(t, what, w.read(5), c.want)
		}
		if has(w.s) != before {
			t.Errorf("%s: Read changed something", what)
		}
	}
}

// TestP1603Delete: of what is there, of what is not, of half of it.
func TestP1603Delete(t *testing.T) {
	for half := range 4 {
		w := twinOf(t)
		w.do(func(s *simobj.Store) {
			for _, key := range []string{dataKey(4), metaKey(4), dataKey(51), metaKey(51), "meta/5", "data/5", "other"} {
				lay(t, s, key, []byte("some"))
			}
		})
		others := has(w.s)
		w.do(func(s *simobj.Store) {
			if half&1 > 0 {
				lay(t, s, dataKey(5), data(t, 1))
			}
			if half&2 > 0 {
				lay(t, s, metaKey(5), []byte("whatever it is"))
			}
		})
		wantE(t, "Delete", w.delete(5), api.OK)
		if has(w.s) != others {
			t.Errorf("there is %s, want %s", has(w.s), others)
		}
		calls := w.s.Calls()
		for _, id := range wrongIDs {
			wantE(t, "Delete of no id", w.delete(id), api.ErrArg)
		}
		if has(w.s) != others || w.s.Calls() != calls {
			t.Errorf("there is %s, want %s", has(w.s), others)
		}
	}
}

// TestP1603List: of stores with and without other keys.
func TestP1603List(t *testing.T) {
	for what, c := range map[string]struct {
		keys []string
		want []int
	}{
		"nothing":       {nil, nil},
		"both":          {[]string{dataKey(5), metaKey(5)}, []int{5}},
		"data alone":    {[]string{dataKey(5)}, []int{5}},
		"meta alone":    {[]string{metaKey(5)}, []int{5}},
		"several":       {[]string{dataKey(3), dataKey(20), dataKey(most), metaKey(most), metaKey(3), metaKey(1), metaKey(7), dataKey(7), dataKey(2)}, []int{1, 2, 3, 7, 20, most}},
		"one behind":    {[]string{dataKey(9), metaKey(1), metaKey(10)}, []int{1, 9, 10}},
		"others":        {[]string{"a", "data/", "meta/", "data/5", "meta/0000000000000", "data/1099511627776", "meta/+000000000005", "seg-0000000000005", "metadata/0000000000005", "data/00000000000005", "zz"}, nil},
		"others beside": {[]string{"a", dataKey(6), "data/00000000000005", "data/x", metaKey(4), "meta/9999999999999", "nota/0000000000003", "zz"}, []int{4, 6}},
	} {
		w := twinOf(t)
		w.do(func(s *simobj.Store) {
			for _, key := range c.keys {
				lay(t, s, key, []byte("whatever it is"))
			}
		})
		for range 2 {
			if got := w.list(); !slices.Equal(got, c.want) {
				t.Errorf("%s: the model lists %v, want %v", what, got, c.want)
			}
		}
	}
}

// TestP1603ListMany: as many as a store takes.
func TestP1603ListMany(t *testing.T) {
	w := twinOf(t)
	w.do(func(s *simobj.Store) {
		for n := range api.MaxObject {
			key := dataKey(1 + n)
			if n%2 == 0 {
				key = metaKey(1 + n/3)
			}
			lay(t, s, key, nil)
		}
	})
	w.list()
}

// TestP1603ListLag: as the store lists it: what is new is not there yet, what was deleted is.
func TestP1603ListLag(t *testing.T) {
	w, b := twinOf(t), data(t, 1)
	want := func(ids ...int) {
		t.Helper()
		if got := w.list(); !slices.Equal(got, ids) {
			t.Errorf("the model lists %v, want %v", got, ids)
		}
	}
	tick := func(n int) { w.do(func(s *simobj.Store) { wantE(t, "Tick", s.Tick(n), api.OK) }) }
	w.do(func(s *simobj.Store) { wantE(t, "Lag", s.Lag(3), api.OK) })
	tick(5)
	w.upload(1, 0, b)
	want()
	tick(2)
	w.commit(1, 0, b)
	want()
	tick(1)
	want(1)
	tick(2)
	wantE(t, "Delete", w.delete(1), api.OK)
	want(1)
	w.upload(2, 0, b)
	w.commit(3, 0, b)
	want(1)
	tick(3)
	want(2, 3)
	// What is put again was there all the time.
	w.upload(2, 0, b)
	w.commit(3, 0, b)
	want(2, 3)
}

// starts: what may be there of the block 5 as something is asked, and of others.
func starts(t *testing.T) map[string]func(s *simobj.Store) {
	b, other := data(t, 3), data(t, 4)
	m, _ := describe(5, 1, b)
	return map[string]func(s *simobj.Store){
		"nothing":      func(*simobj.Store) {},
		"the data":     func(s *simobj.Store) { lay(t, s, dataKey(5), b) },
		"the meta":     func(s *simobj.Store) { lay(t, s, metaKey(5), metaBytes(m, sum(b))) },
		"both":         func(s *simobj.Store) { lay(t, s, dataKey(5), b); lay(t, s, metaKey(5), metaBytes(m, sum(b))) },
		"other data":   func(s *simobj.Store) { lay(t, s, dataKey(5), other); lay(t, s, metaKey(5), metaBytes(m, sum(b))) },
		"another meta": func(s *simobj.Store) { lay(t, s, dataKey(5), b); lay(t, s, metaKey(5), []byte("some")) },
		"others": func(s *simobj.Store) {
			lay(t, s, dataKey(4), other)
			lay(t, s, metaKey(6), metaBytes(m, sum(b)))
			lay(t, s, "zz", b)
		},
	}
}

// TestP1603Faults: a fault at each call of the store, done and not done; then once more without one.
func TestP1603Faults(t *testing.T) {
	b := data(t, 3)
	for call, steps := range map[string]int{"upload": 1, "commit": 1, "read": 2, "delete": 2, "list": 1} {
		ask := func(w *twin) {
			switch call {
			case "upload":
				w.upload(5, 1, b)
			case "commit":
				w.commit(5, 1, b)
			case "read":
				w.read(5)
			case "delete":
				w.delete(5)
			case "list":
				w.list()
			}
		}
		for what, start := range starts(t) {
			for k := range steps + 3 {
				for _, done := range []bool{false, true} {
					w := twinOf(t)
					w.do(start)
					w.do(func(s *simobj.Store) { s.Fail(k, done) })
					calls := w.s.Calls()
					ask(w)
					if n := w.s.Calls() - calls; n < 1 || n > steps {
						t.Errorf("%s: %d calls of the store", call, n)
					}
					ask(w)
					w.do(func(s *simobj.Store) { s.Fail(0, false) })
					for range 2 {
						ask(w)
						w.read(5)
						w.list()
					}
					if t.Failed() {
						t.Fatalf("%s, where there is %s, a fault at %d: %v", call, what, k, done)
					}
				}
			}
		}
	}
}

// TestP1603FaultsByName: the same, written out: what is there behind each.
func TestP1603FaultsByName(t *testing.T) {
	b := data(t, 3)
	for _, c := range []struct {
		call string
		k    int
		done bool
		want string // of the data, and of the meta
	}{
		{"upload", 1, false, "old old"}, {"upload", 1, true, "new old"}, {"commit", 1, false, "old old"}, {"commit", 1, true, "old new"},
		{"delete", 1, false, "old old"}, {"delete", 1, true, "old -"}, {"delete", 2, false, "old -"}, {"delete", 2, true, "- -"},
		{"read", 1, false, "old old"}, {"read", 2, true, "old old"}, {"list", 1, true, "old old"},
	} {
		s := store(t)
		m, _ := describe(5, 1, b)
		lay(t, s, dataKey(5), []byte("old"))
		lay(t, s, metaKey(5), metaBytes(some(), 7))
		s.Fail(c.k, c.done)
		switch c.call {
		case "upload":
			wantAnswer(t, c.call, block.Upload, s, b)
		case "commit":
			wantAnswer(t, c.call, block.Commit, s, b)
		case "delete":
			wantE(t, c.call, block.Delete(s, 5), api.ErrFault)
		case "read":
			if m, b, e := block.Read(s, 5); m != (planner.Meta{}) || len(b) > 0 || e != api.ErrFault {
				t.Errorf("Read: %v %q %d", m, b, e)
			}
		case "list":
			if ids, e := block.List(s); len(ids) > 0 || e != api.ErrFault {
				t.Errorf("List: %v %d", ids, e)
			}
		}
		tell := func(key, old, new string) string {
			got, there := s.Look(key)
			switch {
			case !there:
				return "-"
			case string(got) == old:
				return "old"
			case string(got) == new:
				return "new"
			}
			return string(got)
		}
		got := tell(dataKey(5), "old", string(b)) + " " + tell(metaKey(5), string(metaBytes(some(), 7)), string(metaBytes(m, sum(b))))
		if got != c.want {
			t.Errorf("%s, a fault at %d, %v: there is %s, want %s", c.call, c.k, c.done, got, c.want)
		}
	}
}

func wantAnswer(t *testing.T, what string, call func(s *simobj.Store, id, level int, b []byte) (planner.Meta, api.Errno), s *simobj.Store, b []byte) {
	t.Helper()
	if m, e := call(s, 5, 1, b); m != (planner.Meta{}) || e != api.ErrFault {
		t.Errorf("%s: %v %d", what, m, e)
	}
}

// TestP1603Random: many calls, faults and lags, as the document's steps would have it.
func TestP1603Random(t *testing.T) {
	r := rand.New(rand.NewPCG(16, 5))
	wrong := wrongData(t)
	for range 300 {
		w := twinOf(t)
		for range 60 {
			id, b := 1+r.IntN(4), data(t, r.IntN(6))
			level := []int{0, 0, 3, 20, 21}[r.IntN(5)]
			switch r.IntN(16) {
			case 0:
				k, done := r.IntN(6), r.IntN(2) == 0
				w.do(func(s *simobj.Store) { s.Fail(k, done) })
			case 1:
				n := r.IntN(9)
				w.do(func(s *simobj.Store) { s.Tick(n) })
			case 2:
				n := r.IntN(9)
				w.do(func(s *simobj.Store) { s.Lag(n) })
			case 3:
				key := []string{dataKey(id), metaKey(id), "data/x", "other"}[r.IntN(4)]
				w.do(func(s *simobj.Store) { s.Put(key, b) })
			case 4:
				w.upload(id, level, wrong[r.IntN(len(wrong))])
			case 5, 6, 7:
				w.upload(id, level, b)
			case 8, 9, 10:
				w.commit(id, level, b)
			case 11, 12:
				w.delete(id)
			case 13:
				w.list()
			default:
				w.read(id)
			}
			if t.Failed() {
				t.FailNow()
			}
		}
	}
}
