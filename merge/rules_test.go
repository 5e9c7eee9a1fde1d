package merge_test

import (
	"math"
	"math/rand/v2"
	"reflect"
	"slices"
	"testing"

	"icehouse/api"
	"icehouse/merge"
)

// P701

// TestP701NoIter: of a nil one, and of one that New did not make.
func TestP701NoIter(t *testing.T) {
	for _, it := range []*merge.Iter{nil, {}, new(merge.Iter)} {
		if n := it.Skipped(); n != 0 {
			t.Error(n)
		}
		wantNone(t, it, 0)
	}
	if merge.New(nil, false) == nil || merge.New([][]api.Entry{}, true) == nil {
		t.Error("New makes one of no rows, too")
	}
}

// mark: what lies behind a list in its room; no call may reach it.
func mark() api.Label { return api.Label{Name: "mark", Value: "mark"} }

// roomy: rows in which each list has room behind it, and something in it.
func roomy(rows [][]api.Entry) [][]api.Entry {
	out := [][]api.Entry{}
	for _, l := range rows {
		var in []api.Entry
		for _, x := range append(slices.Clone(l), entry(77, 1, "mark")) {
			x.Labels = append(slices.Clone(x.Labels), mark())[:len(x.Labels)]
			in = append(in, x)
		}
		out = append(out, in[:len(l)])
	}
	return append(out, row(78, 1))[:len(rows)]
}

// whole: all that lies in the rows' memory, the room behind them too.
func whole(rows [][]api.Entry) [][]api.Entry {
	out := [][]api.Entry{}
	for _, l := range rows[:len(rows)+1] {
		var in []api.Entry
		for _, x := range l[:min(len(l)+1, cap(l))] {
			x.Labels = slices.Clone(x.Labels[:min(len(x.Labels)+1, cap(x.Labels))])
			in = append(in, x)
		}
		out = append(out, in)
	}
	return out
}

// spoil: all that can be reached from the entries is overwritten, the room behind the lists too.
func spoil(l []api.Entry) {
	for _, x := range l[:cap(l)] {
		clear(x.Labels[:cap(x.Labels)])
	}
	clear(l[:cap(l)])
}

func TestP701NothingIsChanged(t *testing.T) {
	r := rand.New(rand.NewPCG(7, 10))
	for range 300 {
		plain := anyRows(r)
		rows := roomy(plain)
		before := whole(rows)
		for _, newest := range []bool{false, true} {
			it := merge.New(rows, newest)
			for range 1 + len(slices.Concat(rows...)) {
				it.Next()
			}
			for _, most := range []int{-1, 0, 1, 5, math.MaxInt} {
				spoil(merge.All(rows, newest, most))
			}
			for _, l := range rows {
				merge.Ordered(l, newest)
				spoil(merge.Turn(l))
			}
		}
		if !reflect.DeepEqual(before, whole(rows)) {
			t.Fatal("changed", rows)
		}
	}
}

// TestP701RowsAreNotKept: what New was handed may be changed then, at any time.
func TestP701RowsAreNotKept(t *testing.T) {
	plain := [][]api.Entry{row(1, 1, 4, 4, 7, 7), row(2, 2, 4, 4, 9, 9), row(3, 3)}
	want, _ := model(plain, false)
	for n := range len(want) + 1 {
		rows := roomy(plain)
		it := merge.New(rows, false)
		var got []api.Entry
		for range n {
			x, _ := it.Next()
			got = append(got, x)
		}
		for _, l := range rows {
			spoil(l)
		}
		clear(rows)
		for range len(want) - n {
			x, _ := it.Next()
			got = append(got, x)
		}
		wantEntries(t, "New kept what was handed in", got, want)
		wantNone(t, it, 1)
	}
	rows := roomy(plain)
	all, turn := merge.All(rows, false, 0), merge.Turn(rows[0])
	for _, l := range rows {
		spoil(l)
	}
	wantEntries(t, "All shares with what was handed in", all, want)
	wantEntries(t, "Turn shares with what was handed in", turn, merge.Turn(plain[0]))
}

// TestP701AnswersAreNew: no two entries of an answer share labels, though they
// were handed in as one list, and no two answers share anything.
func TestP701AnswersAreNew(t *testing.T) {
	labels := []api.Label{{Name: "a", Value: "x"}, mark()}[:1]
	var l []api.Entry
	for _, x := range row(1, 1, 2, 2, 3, 3, 4, 4) {
		x.Labels = labels
		l = append(l, x)
	}
	rows := [][]api.Entry{l, l[1:3], l}
	want := row(1, 1, 2, 2, 3, 3, 4, 4)
	nexts := func() []api.Entry {
		var out []api.Entry
		it := merge.New(rows, false)
		for range l {
			x, _ := it.Next()
			out = append(out, x)
		}
		return out
	}
	for name, c := range map[string]struct {
		answer func() []api.Entry
		want   []api.Entry
	}{
		"Next": {nexts, want},
		"All":  {func() []api.Entry { return merge.All(rows, false, 0) }, want},
		"some": {func() []api.Entry { return merge.All(rows, false, 3) }, want[:3]},
		"Turn": {func() []api.Entry { return merge.Turn(l) }, merge.Turn(want)},
	} {
		one, two := c.answer(), c.answer()
		for i := range one {
			clear(one[i].Labels[:cap(one[i].Labels)])
			wantEntries(t, name+" shares within an answer", one[i+1:], c.want[i+1:])
		}
		spoil(one)
		wantEntries(t, name+" shares with another answer", two, c.want)
		wantEntries(t, name+" shares with what was handed in", c.answer(), c.want)
		if !slices.Equal(labels[:2], []api.Label{{Name: "a", Value: "x"}, mark()}) {
			t.Error(name, "changed", labels[:2])
		}
	}
	// What Next answered is not what it goes on with.
	it := merge.New([][]api.Entry{l, l, l}, false)
	for i := range l {
		x, ok := it.Next()
		wantEntries(t, "Next goes on", []api.Entry{x}, want[i:i+1])
		if clear(x.Labels[:cap(x.Labels)]); !ok {
			t.Error(i)
		}
	}
}

// TestP701ItersAreApart: what is asked of one changes nothing in another one.
func TestP701ItersAreApart(t *testing.T) {
	rows := [][]api.Entry{row(1, 1, 3, 3, 5, 5), row(1, 1, 2, 2, 5, 5)}
	want, skipped := model(rows, false)
	one, two := merge.New(rows, false), merge.New(rows, false)
	for i := range want {
		one.Next()
		one.Next()
		x, ok := two.Next()
		if wantEntries(t, "Next", []api.Entry{x}, want[i:i+1]); !ok || two.Skipped() != skipped[i] {
			t.Error(i, ok, two.Skipped())
		}
	}
	wantNone(t, one, 2)
	wantNone(t, two, 2)
	wantMerged(t, rows, false, want, skipped)
}

// TestP701AnyArguments: every call answers, also of entries that may not be.
func TestP701AnyArguments(t *testing.T) {
	numbers := []int{math.MinInt, -1, 0, 1, api.MaxSeq, math.MaxInt}
	var l []api.Entry
	for _, seq := range numbers {
		for _, time := range numbers {
			l = append(l, entry(seq, time, "\xff"), api.Entry{Seq: seq, Time: time}, api.Entry{Seq: seq, Time: time, Labels: []api.Label{{}, {}}})
		}
	}
	for _, newest := range []bool{false, true} {
		for _, rows := range [][][]api.Entry{{l}, {l, merge.Turn(l)}, {nil, l, {}, l}, make([][]api.Entry, 100000), {{{}}}} {
			want, skipped := model(rows, newest)
			wantMerged(t, rows, newest, want, skipped)
			for _, most := range numbers {
				got := merge.All(rows, newest, most)
				if n := len(want); most < 0 && len(got) != 0 || most == 0 && len(got) != n || most > 0 && len(got) != min(n, most) {
					t.Error(most, len(got))
				}
			}
		}
	}
}

// TestP701NilAndEmpty: they mean the same, and of nothing there is nothing.
func TestP701NilAndEmpty(t *testing.T) {
	for _, l := range [][]api.Entry{nil, {}} {
		for _, newest := range []bool{false, true} {
			if !merge.Ordered(l, newest) || len(merge.Turn(l)) != 0 || len(merge.All([][]api.Entry{l, l}, newest, 0)) != 0 {
				t.Error(l)
			}
			wantMerged(t, [][]api.Entry{l, row(1, 2), l}, newest, row(1, 2), []int{0, 0})
		}
	}
	// Labels, too.
	none := []api.Entry{{Seq: 1, Labels: nil}, {Seq: 2, Labels: []api.Label{}}}
	wantEntries(t, "without labels", merge.All([][]api.Entry{none[:1], none[1:]}, false, 0), none)
}

// TestP701TheSameAgain: what is asked twice is answered the same.
func TestP701TheSameAgain(t *testing.T) {
	r := rand.New(rand.NewPCG(7, 11))
	for range 300 {
		rows, newest, most := anyRows(r), r.IntN(2) == 0, r.IntN(20)-2
		l := anyRow(r, 10, "")
		ask := func() []any {
			it := merge.New(rows, newest)
			x, ok := it.Next()
			return []any{x, ok, it.Skipped(), merge.All(rows, newest, most), merge.Ordered(l, newest), merge.Turn(l)}
		}
		if a, b := ask(), ask(); !reflect.DeepEqual(a, b) {
			t.Fatal(a, b)
		}
	}
}
