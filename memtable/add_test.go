package memtable_test

import (
	"fmt"
	"math"
	"slices"
	"strconv"
	"strings"
	"testing"

	"icehouse/api"
	"icehouse/memtable"
	"icehouse/record"
)

const mostLimit = 1 << 30

// TestExample: of the chapter.
func TestExample(t *testing.T) {
	m, e := memtable.New(4096)
	wantE(t, "New", e, api.OK)
	wantE(t, "Add", m.Add([]api.Entry{entry(1, 5, "a=x", "u")}), api.OK)
	if !m.Has(1) {
		t.Error("Has(1): false")
	}
	wantN(t, "Drop(1)", m.Drop(1), 1)
	wantN(t, "Bytes", m.Bytes(), 0)
}

// wrongEntries: such as may not be.
func wrongEntries() []api.Entry {
	var out []api.Entry
	for _, n := range []int{math.MinInt, -1, 0, api.MaxSeq, api.MaxSeq + 1, math.MaxInt} {
		out = append(out, entry(n, 1, "a=x", "u"))
	}
	for _, n := range []int{math.MinInt, -1, api.MaxTime, api.MaxTime + 1, math.MaxInt} {
		out = append(out, entry(1, n, "a=x", "u"))
	}
	many := ""
	for i := range api.MaxLabels + 1 {
		many += " " + string(rune('a'+i)) + "=x"
	}
	for _, words := range []string{"", "a=", "=x", "0=x", "b=x a=x", "a=x a=y", "a=\xff", many, strings.Repeat("n", 65) + "=x", "a=" + strings.Repeat("v", 129)} {
		out = append(out, entry(1, 1, words, "u"))
	}
	return append(out, entry(1, 1, "a=x", strings.Repeat("u", api.MaxLine+1)), api.Entry{})
}

// P1302

func TestP1302New(t *testing.T) {
	for _, limit := range []int{math.MinInt, -mostLimit, -1, 0, mostLimit + 1, math.MaxInt} {
		if m, e := memtable.New(limit); m != nil || e != api.ErrArg {
			t.Errorf("New(%d): %v %d", limit, m, e)
		}
	}
	for _, limit := range []int{1, 2, 9, 4096, mostLimit - 1, mostLimit} {
		w := twinOf(t, limit)
		w.looks("empty")
		w.must()
		w.looks("nothing was added")
		w.drop(math.MaxInt)
		w.add([]api.Entry{sized(1, 9)})
		w.looks(strconv.Itoa(limit))
	}
	wantN(t, "the least entry's size", record.Size(sized(1, 9)), 9)
}

// TestP1302Nothing: no entries have room, also where there is none.
func TestP1302Nothing(t *testing.T) {
	w := twinOf(t, 9).must(sized(1, 9))
	for _, l := range [][]api.Entry{nil, {}} {
		if !w.m.Room(l) {
			t.Error("no entries have no room")
		}
		wantE(t, "Add of nothing", w.m.Add(l), api.OK)
		w.looks("full")
	}
}

// TestP1302Wrong: one that may not be, alone and among others, also where its Seq is there.
func TestP1302Wrong(t *testing.T) {
	for i, bad := range wrongEntries() {
		w := twinOf(t, 200)
		if !w.m.Room([]api.Entry{bad}) {
			t.Error(i, "what may not be takes room")
		}
		for range 2 {
			wantE(t, "alone", w.add([]api.Entry{bad}), api.ErrArg)
			for at := range 3 {
				wantE(t, "among others", w.add(slices.Insert(run(1, 2), at, bad)), api.ErrArg)
				wantE(t, "with one of the same Seq", w.add(slices.Insert([]api.Entry{sized(bad.Seq, 20), sized(bad.Seq, 30)}, at, bad)), api.ErrArg)
				// Also where there is no room for the others.
				wantE(t, "among too many", w.add(slices.Insert(run(1, 40), at, bad)), api.ErrArg)
			}
			w.looks("refused")
			w.must(run(1, 3)...)
		}
	}
}

// TestP1302WrongTakesNoRoom: of the same Seq the first one that may be counts.
func TestP1302WrongTakesNoRoom(t *testing.T) {
	for _, bad := range wrongEntries() {
		w := twinOf(t, 50)
		l := []api.Entry{bad, sized(1, 50), bad, sized(1, 60), bad}
		if !w.room(l) {
			t.Error("50 bytes have no room in 50")
		}
		l[1], l[3] = l[3], l[1]
		if w.room(l) {
			t.Error("60 bytes have room in 50")
		}
		w.looks("Room")
	}
}

// TestP1302There: entries whose Seqs are there are left away, whatever else they are.
func TestP1302There(t *testing.T) {
	w := twinOf(t, 4096).must(run(1, 4)...)
	for _, x := range []api.Entry{run(1, 4)[1], entry(2, 99, "a=x", "line"), entry(2, 20, "c=z", "line"), entry(2, 20, "a=x", "other"), entry(2, 0, "a=x", strings.Repeat("u", 1024))} {
		w.must(x)
		w.looks("there")
		w.must(x, x, entry(w.m.Rows()+1, 7, "d=1", "new"), x)
		w.looks("there, with a new one")
	}
	wantN(t, "Rows", w.m.Rows(), 9)
	// They have room where nothing else has.
	w = twinOf(t, 30).must(sized(1, 30))
	w.must(sized(1, 100), sized(1, 9))
	wantE(t, "with a new one", w.add([]api.Entry{sized(1, 9), sized(2, 9)}), api.ErrBusy)
	w.looks("full")
}

// TestP1302SameSeq: of several new ones with the same Seq the first one is there.
func TestP1302SameSeq(t *testing.T) {
	l := []api.Entry{
		entry(7, 5, "a=x", "first"), entry(7, 5, "a=y", "first"), entry(8, 4, "b=x", "u"), entry(7, 5, "a=x", "other"),
		entry(7, 1, "a=x", "first"), entry(8, 9, "b=x", "u"), entry(8, 4, "b=x c=x", strings.Repeat("u", 1000)),
	}
	w := twinOf(t, 4096).must(l...)
	w.looks("the first ones")
	wantTold(t, "All", w.m.All(), []api.Entry{l[2], l[0]})
	slices.Reverse(l)
	w = twinOf(t, 4096).must(l...)
	wantTold(t, "All", w.m.All(), []api.Entry{l[2], l[0]})
	// The first one's size alone counts.
	w = twinOf(t, 20)
	wantE(t, "a great one first", w.add([]api.Entry{sized(1, 21), sized(1, 9)}), api.ErrBusy)
	w.must(sized(1, 20), sized(1, 99), sized(1, 9))
	w.looks("a small one first")
}

// TestP1302Limit: to the last byte, and one byte past it.
func TestP1302Limit(t *testing.T) {
	for limit := 9; limit <= 60; limit++ {
		w := twinOf(t, limit)
		wantE(t, "one byte past it", w.add([]api.Entry{sized(1, limit+1)}), api.ErrBusy)
		w.looks("refused")
		w.must(sized(1, limit))
		wantN(t, "Bytes", w.m.Bytes(), limit)
		w.looks("full")
		wantE(t, "one more", w.add([]api.Entry{sized(2, 9)}), api.ErrBusy)
		w.looks("refused")
		w.drop(1)
		w.looks("dropped")
		w.must(sized(2, limit))
	}
	for least := 9; least < 51; least++ {
		w := twinOf(t, 60).must(sized(5, least))
		left := 60 - least
		wantE(t, "one byte past it", w.add([]api.Entry{sized(6, left+1)}), api.ErrBusy)
		if left >= 18 {
			wantE(t, "two, one byte past it", w.add([]api.Entry{sized(6, left-8), sized(7, 9)}), api.ErrBusy)
			w.looks("refused")
			w.must(sized(6, left-9), sized(7, 9))
		} else {
			w.must(sized(6, left))
		}
		w.looks("full")
		wantN(t, "Bytes", w.m.Bytes(), 60)
	}
}

// TestP1302LimitOne: no entry is so small.
func TestP1302LimitOne(t *testing.T) {
	for limit := 1; limit < 9; limit++ {
		w := twinOf(t, limit)
		wantE(t, "Add", w.add([]api.Entry{sized(1, 9)}), api.ErrBusy)
		w.looks("refused")
		w.must()
	}
}

// TestP1302Refused: what was refused changes nothing, and is not there by halves.
func TestP1302Refused(t *testing.T) {
	w := twinOf(t, 100).must(sized(3, 40), sized(9, 20))
	for range 3 {
		wantE(t, "Add", w.add([]api.Entry{sized(1, 9), sized(2, 9), entry(4, 4, "c=z", "u"), sized(5, 60)}), api.ErrBusy)
		wantE(t, "Add", w.add([]api.Entry{sized(1, 9), sized(2, 9), {Seq: 5}}), api.ErrArg)
		w.looks("refused")
		for _, seq := range []int{1, 2, 4, 5} {
			if w.m.Has(seq) {
				t.Errorf("Has(%d): true", seq)
			}
		}
	}
	w.must(sized(1, 9), sized(2, 9), sized(5, 22))
	w.looks("added")
}

// TestP1302Has: numbers that are there, and others.
func TestP1302Has(t *testing.T) {
	w := twinOf(t, 4096).must(sized(5, 20), sized(api.MaxSeq-1, 20), sized(1, 20))
	for seq, want := range map[int]bool{
		math.MinInt: false, -5: false, -1: false, 0: false, 1: true, 2: false, 4: false, 5: true, 6: false, api.MaxSeq - 2: false,
		api.MaxSeq - 1: true, api.MaxSeq: false, api.MaxSeq + 5: false, math.MaxInt: false,
	} {
		if w.m.Has(seq) != want {
			t.Errorf("Has(%d): %v", seq, !want)
		}
	}
}

// TestP1302Edges: entries with all that they may have, and with the least.
func TestP1302Edges(t *testing.T) {
	words := ""
	for i := range api.MaxLabels {
		words += string(rune('a'+i)) + strings.Repeat("n", api.MaxName-1) + "=" + strings.Repeat("v", api.MaxValue) + " "
	}
	signs := []api.Label{{Name: "A", Value: " \t\n\"\\{}=,"}, {Name: "_", Value: "\x00\x7f\u00e9\U0001f9ca"}}
	w := twinOf(t, mostLimit).must(
		entry(api.MaxSeq-1, api.MaxTime-1, words, strings.Repeat("\xff", api.MaxLine)), entry(1, 0, "a=x", ""),
		api.Entry{Seq: 2, Labels: signs, Line: "\x00\n\xff"}, api.Entry{Seq: 3, Labels: signs[:1]},
	)
	w.looks("edges")
	w.must(api.Entry{Seq: 4, Labels: signs, Line: "\u00e9"})
	w.looks("of the same stream")
	wantN(t, "Streams", w.m.Streams(), 4)
}

// TestP1302Streams: lists of labels are the same stream just where they are equal.
func TestP1302Streams(t *testing.T) {
	w := twinOf(t, mostLimit)
	lists := []string{"a=x", "a=y", "a=x b=x", "b=x", "a=xb", "ab=x", "A=x", "a=x b=x c=x", "a=x,b=x", "a=x\"", "a=\u00e9", "a=e\u0301", "a_=x aa=x"}
	for i, words := range lists {
		w.must(entry(i+1, 1, words, "u"), entry(i+101, 1, words, "v"))
		wantN(t, words, w.m.Streams(), i+1)
	}
	w.looks("streams")
	// A stream that is not new makes none.
	w.must(entry(50, 1, "a=x", "u"), entry(51, 1, "b=x", "u"))
	wantN(t, "Streams", w.m.Streams(), len(lists))
	w.drop(51)
	wantN(t, "Streams", w.m.Streams(), len(lists))
	w.drop(112)
	wantN(t, "Streams", w.m.Streams(), 1)
	w.looks("one stream")
}

// TestP1302Long: more entries than a batch has, at once and one by one.
func TestP1302Long(t *testing.T) {
	l := run(1, 3000)
	w := twinOf(t, mostLimit)
	wantE(t, "Add", w.m.Add(l), api.OK)
	w.l = l
	w.looks("at once")
	m, _ := memtable.New(mostLimit)
	for i := range l {
		wantE(t, "Add", m.Add(l[len(l)-1-i:][:1]), api.OK)
	}
	wantTold(t, "one by one", m.All(), l)
	wantN(t, "Bytes", m.Bytes(), w.m.Bytes())
}

// TestP1302ManyStreams: more of them than an index has numbers.
func TestP1302ManyStreams(t *testing.T) {
	const many = api.MaxList + 40
	m, e := memtable.New(mostLimit)
	wantE(t, "New", e, api.OK)
	of := func(i int) api.Entry {
		return entry(i, i%1000, fmt.Sprintf("a=%d b=%d", i, i%7), "u")
	}
	bytes := 0
	for i := 1; i <= many; i++ {
		if e := m.Add([]api.Entry{of(i)}); e != api.OK {
			t.Fatal(i, e)
		}
		bytes += record.Size(of(i))
	}
	wants := func(first int) {
		t.Helper()
		wantN(t, "Streams", m.Streams(), many-first+1)
		wantN(t, "Rows", m.Rows(), many-first+1)
		wantN(t, "Bytes", m.Bytes(), bytes)
		for _, i := range []int{1, 2, 50, 100, api.MaxList - 1, api.MaxList, api.MaxList + 1, many - 1, many} {
			var want []api.Entry
			if i >= first {
				want = []api.Entry{of(i)}
			}
			wantTold(t, "Find of one", m.Find(query(t, fmt.Sprintf(`{a="%d"}`, i))), want)
			wantTold(t, "Find of one, and another", m.Find(query(t, fmt.Sprintf(`{a="%d", b!="%d"}`, i, i%7))), nil)
		}
		n := 0
		for i := first; i <= many; i++ {
			if i%7 == 3 && i%1000 == 9 {
				n++
			}
		}
		wantN(t, "Find of many", len(m.Find(query(t, `{b="3", c=""} from 9 to 10`))), n)
	}
	wants(1)
	for i := 1; i <= 100; i++ {
		wantN(t, "Drop", m.Drop(i), 1)
		bytes -= record.Size(of(i))
	}
	wants(101)
	for i := 1; i <= 100; i++ {
		wantE(t, "Add again", m.Add([]api.Entry{of(i)}), api.OK)
		bytes += record.Size(of(i))
	}
	wants(1)
	wantN(t, "Drop", m.Drop(many-20), many-20)
	bytes = 0
	for i := many - 19; i <= many; i++ {
		bytes += record.Size(of(i))
	}
	wants(many - 19)
	wantN(t, "Drop", m.Drop(many), 20)
	wantLooks(t, "empty", m, nil)
}
