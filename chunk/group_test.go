package chunk_test

import (
	"math/rand/v2"
	"reflect"
	"slices"
	"strconv"
	"strings"
	"testing"

	"icehouse/api"
	"icehouse/chunk"
	"icehouse/label"
	"icehouse/record"
)

func entry(seq, time int, line string, words ...string) api.Entry {
	return api.Entry{Seq: seq, Time: time, Labels: of(words...), Line: line}
}

func wantGroup(t *testing.T, l []api.Entry, want []chunk.Chunk) {
	t.Helper()
	if got := chunk.Group(l); len(got)+len(want) > 0 && !reflect.DeepEqual(got, want) {
		t.Fatalf("Group of %v:\n%v\nwant\n%v", l, got, want)
	}
}

// grouped: what Group should answer, one entry after the other put where it belongs.
func grouped(l []api.Entry) []chunk.Chunk {
	var streams []chunk.Chunk
	seen := map[int]int{}
	for _, x := range l {
		if !record.Right(x) || seen[x.Seq] > 0 {
			continue
		}
		seen[x.Seq] = 1
		at := slices.IndexFunc(streams, func(c chunk.Chunk) bool { return slices.Equal(c.Labels, x.Labels) })
		if at < 0 {
			at = len(streams)
			streams = append(streams, chunk.Chunk{Labels: x.Labels})
		}
		streams[at].Rows = append(streams[at].Rows, row(x.Seq, x.Time, x.Line))
	}
	slices.SortFunc(streams, func(a, b chunk.Chunk) int { return label.Compare(a.Labels, b.Labels) })
	var out []chunk.Chunk
	for _, c := range streams {
		slices.SortFunc(c.Rows, inOrder)
		for n := len(c.Rows); n > 0; n = len(c.Rows) {
			part := min(n, most)
			out = append(out, chunk.Chunk{Labels: c.Labels, Rows: c.Rows[:part]})
			c.Rows = c.Rows[part:]
		}
	}
	return out
}

// P404

func TestP404Group(t *testing.T) {
	wantGroup(t, nil, nil)
	wantGroup(t, []api.Entry{}, nil)
	wantGroup(t, []api.Entry{entry(4, 10, "u", "a", "x")}, []chunk.Chunk{ax(row(4, 10, "u"))})
	wantGroup(t, []api.Entry{entry(2, 11, "v", "a", "x"), entry(4, 10, "u", "a", "x")}, []chunk.Chunk{example()})
	// By Time, then by Seq.
	wantGroup(t, []api.Entry{entry(9, 5, "c", "a", "x"), entry(7, 5, "b", "a", "x"), entry(8, 1, "a", "a", "x"), entry(1, 6, "d", "a", "x")},
		[]chunk.Chunk{ax(row(8, 1, "a"), row(7, 5, "b"), row(9, 5, "c"), row(1, 6, "d"))})
	// The order of the chunks is that of their labels, whatever their times and numbers are.
	wantGroup(t, []api.Entry{
		entry(1, 1, "", "b", "x"), entry(2, 2, "", "a", "y"), entry(3, 3, "", "a", "x", "b", "x"),
		entry(4, 4, "", "a", "x"), entry(5, 5, "", "B", "z"), entry(6, 1, "", "a", "x"), entry(7, 0, "", "b", "x"),
	}, []chunk.Chunk{
		{Labels: of("B", "z"), Rows: []chunk.Row{row(5, 5, "")}},
		{Labels: of("a", "x"), Rows: []chunk.Row{row(6, 1, ""), row(4, 4, "")}},
		{Labels: of("a", "x", "b", "x"), Rows: []chunk.Row{row(3, 3, "")}},
		{Labels: of("a", "y"), Rows: []chunk.Row{row(2, 2, "")}},
		{Labels: of("b", "x"), Rows: []chunk.Row{row(7, 0, ""), row(1, 1, "")}},
	})
}

// TestP404LeftAway: entries that may not be, wherever they stand.
func TestP404LeftAway(t *testing.T) {
	good := entry(4, 10, "u", "a", "x")
	want := []chunk.Chunk{ax(row(4, 10, "u"))}
	bad := []api.Entry{
		{},
		entry(0, 10, "u", "a", "x"), entry(-1, 10, "u", "a", "x"), entry(api.MaxSeq, 10, "u", "a", "x"),
		entry(5, -1, "u", "a", "x"), entry(5, api.MaxTime, "u", "a", "x"),
		entry(5, 10, strings.Repeat("x", 1025), "a", "x"),
		entry(5, 10, "u"), entry(5, 10, "u", "", "x"), entry(5, 10, "u", "a", ""), entry(5, 10, "u", "a", "\xff"),
		entry(5, 10, "u", "b", "x", "a", "x"), entry(5, 10, "u", "a", "x", "a", "x"),
	}
	for _, x := range bad {
		wantGroup(t, []api.Entry{x}, nil)
		wantGroup(t, []api.Entry{x, good}, want)
		wantGroup(t, []api.Entry{good, x}, want)
		wantGroup(t, []api.Entry{x, x, good, x}, want)
	}
	wantGroup(t, bad, nil)
	wantGroup(t, append(bad, good), want)
}

func TestP404SameSeq(t *testing.T) {
	// The first one that stands in the list counts, not the first one in the order.
	wantGroup(t, []api.Entry{entry(4, 10, "u", "a", "x"), entry(4, 9, "v", "a", "x"), entry(4, 10, "w", "a", "x")}, []chunk.Chunk{ax(row(4, 10, "u"))})
	// Also where the labels differ.
	wantGroup(t, []api.Entry{entry(4, 10, "u", "a", "x"), entry(4, 9, "v", "a", "a")}, []chunk.Chunk{ax(row(4, 10, "u"))})
	wantGroup(t, []api.Entry{entry(4, 10, "u", "a", "x"), entry(5, 9, "v", "a", "x"), entry(4, 10, "w", "A", "x")},
		[]chunk.Chunk{ax(row(5, 9, "v"), row(4, 10, "u"))})
	// One that may not be doesn't count as the first one.
	wantGroup(t, []api.Entry{entry(4, -1, "v", "a", "x"), entry(4, 9, "w"), entry(4, 10, "u", "a", "x"), entry(4, 1, "v", "a", "x")},
		[]chunk.Chunk{ax(row(4, 10, "u"))})
}

// TestP404Thousands: rows of one list of labels that are more than a chunk has, in any turn.
func TestP404Thousands(t *testing.T) {
	r := rand.New(rand.NewPCG(4, 7))
	for _, n := range []int{most - 1, most, most + 1, 2*most - 1, 2 * most, 2*most + 1, 3500} {
		var l []api.Entry
		for i := range n {
			l = append(l, entry(n-i, i/3, strconv.Itoa(i), "a", "x"), entry(n+1+i, 7, "", "b", strconv.Itoa(i%3)))
		}
		r.Shuffle(len(l), func(i, j int) { l[i], l[j] = l[j], l[i] })
		got := chunk.Group(l)
		rest := n
		for _, c := range got {
			if rest > 0 && len(c.Rows) != min(rest, most) || !chunk.Right(c) {
				t.Fatal(n, "a chunk has", len(c.Rows), "where there are", rest)
			}
			rest -= len(c.Rows)
		}
		wantGroup(t, l, grouped(l))
	}
}

// jumble: entries of few numbers, times and labels, some of which may not be.
func jumble(r *rand.Rand, n int) []api.Entry {
	var l []api.Entry
	for i := range n {
		x := entry(r.IntN(2*n), r.IntN(9)-1, strconv.Itoa(i), "a", strconv.Itoa(r.IntN(3)))
		if r.IntN(3) == 0 {
			x.Labels = append(x.Labels, api.Label{Name: []string{"A", "b", "c"}[r.IntN(3)], Value: "x"})
		}
		l = append(l, x)
	}
	return l
}

func TestP404GroupOfAny(t *testing.T) {
	r := rand.New(rand.NewPCG(4, 8))
	for n := range 400 {
		l := jumble(r, n)
		wantGroup(t, l, grouped(l))
	}
}

// P406

func TestP406Group(t *testing.T) {
	r := rand.New(rand.NewPCG(4, 9))
	for _, n := range []int{1, 2, 10, 300, 5000} {
		l := jumble(r, n)
		first := map[int]api.Entry{} // of each number
		for _, x := range l {
			if _, there := first[x.Seq]; !there && record.Right(x) {
				first[x.Seq] = x
			}
		}
		for _, c := range chunk.Group(l) {
			for _, x := range entries(c) {
				if !reflect.DeepEqual(first[x.Seq], x) {
					t.Fatal(x, "is not there, or twice")
				}
				delete(first, x.Seq)
			}
		}
		if len(first) != 0 {
			t.Fatal("missing:", first)
		}
	}
}

// TestP406Again: the entries of the chunks are grouped as they were.
func TestP406Again(t *testing.T) {
	r := rand.New(rand.NewPCG(4, 10))
	for range 100 {
		chunks := chunk.Group(jumble(r, 50))
		var l []api.Entry
		for _, c := range chunks {
			l = append(l, entries(c)...)
		}
		r.Shuffle(len(l), func(i, j int) { l[i], l[j] = l[j], l[i] })
		wantGroup(t, l, chunks)
	}
}
