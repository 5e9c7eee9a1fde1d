package merge_test

import (
	"math/rand/v2"
	"slices"
	"strconv"
	"testing"

	"icehouse/api"
	"icehouse/merge"
	"icehouse/record"
)

// orderedRows: rows that are Ordered, of entries that share Seqs and Times.
func orderedRows(r *rand.Rand, newest bool) [][]api.Entry {
	rows := anyRows(r)
	for i, l := range rows {
		rows[i] = record.Sort(l)
		if newest {
			slices.Reverse(rows[i])
		}
	}
	return rows
}

// pool: entries in the order, no two of one Seq; many share a Time.
func pool(r *rand.Rand, n int) []api.Entry {
	l := []api.Entry{}
	for _, seq := range r.Perm(2 * n)[:n] {
		l = append(l, entry(seq-n/2, r.IntN(1+n)-n/2, strconv.Itoa(seq)))
	}
	return record.Sort(l)
}

// dealt: each entry to one row at least, and to others by chance; the rows are in the pool's order.
func dealt(r *rand.Rand, l []api.Entry, n int) [][]api.Entry {
	rows := make([][]api.Entry, n)
	for _, x := range l {
		must := r.IntN(n)
		for i := range rows {
			if i == must || r.IntN(4) == 0 {
				rows[i] = append(rows[i], x)
			}
			if i == must && r.IntN(4) == 0 {
				rows[i] = append(rows[i], x)
			}
		}
	}
	return rows
}

func turned(rows [][]api.Entry) [][]api.Entry {
	var out [][]api.Entry
	for _, l := range rows {
		out = append(out, merge.Turn(l))
	}
	return out
}

// P704

// TestP704OneRow: also where entries of one Seq are not the same.
func TestP704OneRow(t *testing.T) {
	r := rand.New(rand.NewPCG(7, 6))
	for range 3000 {
		newest := r.IntN(2) == 0
		rows := orderedRows(r, newest)
		got := merge.All(rows, newest, 0)
		if !merge.Ordered(got, newest) {
			t.Fatal("not ordered:", brief(got))
		}
		there, answered := map[int]int{}, map[int]int{}
		for _, x := range got {
			if answered[x.Seq]++; answered[x.Seq] > 1 {
				t.Fatal("twice:", x)
			}
			from := false
			for _, l := range rows {
				from = from || slices.ContainsFunc(l, func(y api.Entry) bool { return same([]api.Entry{x}, []api.Entry{y}) })
			}
			if !from {
				t.Fatal("in no row:", x)
			}
		}
		for _, x := range slices.Concat(rows...) {
			there[x.Seq]++
		}
		if len(there) != len(answered) {
			t.Fatal(len(answered), "Seqs of", len(there))
		}
	}
}

// TestP704OfOneSeq: that which comes first of all is the answer.
func TestP704OfOneSeq(t *testing.T) {
	r := rand.New(rand.NewPCG(7, 7))
	for range 1000 {
		newest := r.IntN(2) == 0
		rows := orderedRows(r, newest)
		for _, x := range merge.All(rows, newest, 0) {
			for _, y := range slices.Concat(rows...) {
				if y.Seq == x.Seq && first(y, x, newest) {
					t.Fatal(x, "is answered, not", y)
				}
			}
		}
	}
}

// P705

func TestP705BothWays(t *testing.T) {
	r := rand.New(rand.NewPCG(7, 8))
	for range 3000 {
		l := pool(r, r.IntN(30))
		rows := dealt(r, l, 1+r.IntN(6))
		wantEntries(t, "the oldest first", merge.All(rows, false, 0), l)
		wantEntries(t, "the newest first", merge.All(turned(rows), true, 0), merge.Turn(merge.All(rows, false, 0)))
		wantEntries(t, "and back", merge.All(turned(turned(rows)), false, 0), merge.Turn(merge.All(turned(rows), true, 0)))
		old, young := merge.New(rows, false), merge.New(turned(rows), true)
		for range len(l) + 1 {
			old.Next()
			young.Next()
		}
		if old.Skipped() != young.Skipped() || old.Skipped() != len(slices.Concat(rows...))-len(l) {
			t.Fatal(old.Skipped(), young.Skipped())
		}
	}
}

// P706

func TestP706Pieces(t *testing.T) {
	r := rand.New(rand.NewPCG(7, 9))
	for range 500 {
		l := pool(r, r.IntN(30))
		for range 8 {
			rows := dealt(r, l, 1+r.IntN(12))
			wantEntries(t, "dealt", merge.All(rows, false, 0), l)
			wantEntries(t, "dealt, newest", merge.All(turned(rows), true, 0), merge.Turn(l))
			r.Shuffle(len(rows), func(i, j int) { rows[i], rows[j] = rows[j], rows[i] })
			wantEntries(t, "in another turn", merge.All(rows, false, 0), l)
		}
		// In the plainest ways: one row, a row each, two halves, some rows merged ahead of the others.
		var each [][]api.Entry
		for _, x := range l {
			each = append(each, []api.Entry{x})
		}
		half := len(l) / 2
		wantEntries(t, "one row", merge.All([][]api.Entry{l}, false, 0), l)
		wantEntries(t, "a row each", merge.All(each, false, 0), l)
		wantEntries(t, "halves", merge.All([][]api.Entry{l[half:], l[:half]}, false, 0), l)
		wantEntries(t, "merged twice", merge.All(append(each[half:], merge.All(each[:half], false, 0)), false, 0), l)
	}
}
