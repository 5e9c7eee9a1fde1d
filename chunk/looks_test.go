package chunk_test

import (
	"math"
	"math/rand/v2"
	"reflect"
	"slices"
	"testing"

	"icehouse/api"
	"icehouse/chunk"
)

// entries: the chunk's rows as entries.
func entries(c chunk.Chunk) []api.Entry {
	l := []api.Entry{}
	for _, x := range c.Rows {
		l = append(l, api.Entry{Seq: x.Seq, Time: x.Time, Labels: c.Labels, Line: x.Line})
	}
	return l
}

// sameEntries: an empty list is none.
func sameEntries(a, b []api.Entry) bool {
	return len(a) == len(b) && (len(a) == 0 || reflect.DeepEqual(a, b))
}

// some: chunks that may be, and many of them by chance.
func some() []chunk.Chunk {
	l := rights()
	r := rand.New(rand.NewPCG(4, 4))
	for range 2000 {
		l = append(l, random(r))
	}
	return l
}

// P403

func TestP403Bounds(t *testing.T) {
	for _, c := range []struct {
		of                       chunk.Chunk
		least, most, first, last int
	}{
		{example(), 10, 11, 2, 4},
		{ax(row(1, 0, "")), 0, 0, 1, 1},
		{ax(row(5, 3, ""), row(9, 4, ""), row(1, 7, ""), row(6, 7, "")), 3, 7, 1, 9},
		{ax(row(api.MaxSeq-1, 0, ""), row(1, api.MaxTime-1, "")), 0, api.MaxTime - 1, 1, api.MaxSeq - 1},
		{long(17, most), 0, 499, 17, 1016},
	} {
		if least, most, first, last := chunk.Bounds(c.of); least != c.least || most != c.most || first != c.first || last != c.last {
			t.Errorf("%v: %d %d %d %d", c.of, least, most, first, last)
		}
	}
	for _, c := range some() {
		var seqs, times []int
		for _, x := range c.Rows {
			seqs, times = append(seqs, x.Seq), append(times, x.Time)
		}
		least, most, first, last := chunk.Bounds(c)
		if least != slices.Min(times) || most != slices.Max(times) || first != slices.Min(seqs) || last != slices.Max(seqs) {
			t.Errorf("%v: %d %d %d %d", c, least, most, first, last)
		}
	}
}

func TestP403OfWhatMayNotBe(t *testing.T) {
	for i, c := range append(wrongs(), beyond()...) {
		if least, most, first, last := chunk.Bounds(c); least != 0 || most != 0 || first != 0 || last != 0 {
			t.Errorf("%d: Bounds: %d %d %d %d", i, least, most, first, last)
		}
		if l := chunk.Between(c, math.MinInt, math.MaxInt); len(l) != 0 {
			t.Errorf("%d: Between: %v", i, l)
		}
		for _, most := range []int{1, 2, 1000, math.MaxInt} {
			if l := chunk.Split(c, most); len(l) != 0 {
				t.Errorf("%d: Split: %v", i, l)
			}
		}
	}
}

func TestP403Between(t *testing.T) {
	c := ax(row(9, 3, "a"), row(2, 5, "b"), row(4, 5, "c"), row(1, 8, "d"))
	all := entries(c)
	for _, w := range []struct {
		from, to, begin, end int
	}{
		{math.MinInt, math.MaxInt, 0, 4}, {0, api.MaxTime, 0, 4}, {3, 9, 0, 4}, {-1, 9, 0, 4},
		{3, 8, 0, 3}, {4, 9, 1, 4}, {4, 8, 1, 3}, {5, 8, 1, 3}, {5, 6, 1, 3},
		{3, 4, 0, 1}, {3, 5, 0, 1}, {8, 9, 3, 4}, {6, math.MaxInt, 3, 4}, {8, math.MaxInt, 3, 4}, {math.MinInt, 4, 0, 1},
		// None: nothing between, and nothing of the end itself.
		{5, 5, 0, 0}, {8, 3, 0, 0}, {6, 8, 0, 0}, {4, 5, 0, 0}, {0, 3, 0, 0}, {9, 20, 0, 0}, {math.MinInt, 3, 0, 0}, {9, math.MaxInt, 0, 0},
		{math.MaxInt, math.MinInt, 0, 0}, {math.MaxInt, math.MaxInt, 0, 0}, {math.MinInt, math.MinInt, 0, 0}, {-9, -1, 0, 0},
	} {
		if l := chunk.Between(c, w.from, w.to); !sameEntries(l, all[w.begin:w.end]) {
			t.Errorf("%d to %d: %v", w.from, w.to, l)
		}
	}
	ends := ax(row(2, 0, ""), row(1, api.MaxTime-1, ""))
	for _, w := range []struct{ from, to, n int }{
		{0, api.MaxTime, 2}, {0, api.MaxTime - 1, 1}, {1, api.MaxTime, 1}, {1, api.MaxTime - 1, 0}, {-1, 0, 0}, {api.MaxTime, math.MaxInt, 0},
	} {
		if l := chunk.Between(ends, w.from, w.to); len(l) != w.n {
			t.Errorf("%d to %d: %v", w.from, w.to, l)
		}
	}
}

func TestP403BetweenOfAny(t *testing.T) {
	r := rand.New(rand.NewPCG(4, 5))
	for _, c := range some() {
		end := c.Rows[len(c.Rows)-1].Time + 2
		from, to := r.IntN(end), r.IntN(end)
		want := []api.Entry{}
		for _, x := range entries(c) {
			if x.Time >= from && x.Time < to {
				want = append(want, x)
			}
		}
		if l := chunk.Between(c, from, to); !sameEntries(l, want) {
			t.Fatalf("%v, %d to %d: %v", c, from, to, l)
		}
	}
}

// wantSplit: whether they are c's rows, most in each.
func wantSplit(t *testing.T, c chunk.Chunk, most int, got []chunk.Chunk) {
	t.Helper()
	rows := c.Rows
	for i, part := range got {
		if !reflect.DeepEqual(part.Labels, c.Labels) || len(part.Rows) == 0 || len(part.Rows) > len(rows) {
			t.Fatalf("%v, %d in each: the chunk %d: %v", c, most, i, part)
		}
		if len(part.Rows) != most && (len(part.Rows) > most || i < len(got)-1) {
			t.Fatalf("%v, %d in each: the chunk %d has %d", c, most, i, len(part.Rows))
		}
		if !slices.Equal(part.Rows, rows[:len(part.Rows)]) || !chunk.Right(part) {
			t.Fatalf("%v, %d in each: the chunk %d: %v", c, most, i, part)
		}
		rows = rows[len(part.Rows):]
	}
	if len(rows) != 0 {
		t.Fatalf("%v, %d in each: %v is missing", c, most, rows)
	}
}

func TestP403Split(t *testing.T) {
	c := ax(row(9, 3, "a"), row(2, 5, "b"), row(4, 5, "c"), row(1, 8, "d"), row(3, 8, "e"))
	for _, w := range []struct {
		most int
		want []chunk.Chunk
	}{
		{1, []chunk.Chunk{ax(c.Rows[0]), ax(c.Rows[1]), ax(c.Rows[2]), ax(c.Rows[3]), ax(c.Rows[4])}},
		{2, []chunk.Chunk{ax(c.Rows[:2]...), ax(c.Rows[2:4]...), ax(c.Rows[4])}},
		{3, []chunk.Chunk{ax(c.Rows[:3]...), ax(c.Rows[3:]...)}},
		{4, []chunk.Chunk{ax(c.Rows[:4]...), ax(c.Rows[4])}},
		{5, []chunk.Chunk{c}}, {6, []chunk.Chunk{c}}, {1000, []chunk.Chunk{c}}, {1001, []chunk.Chunk{c}}, {math.MaxInt, []chunk.Chunk{c}},
	} {
		if l := chunk.Split(c, w.most); !reflect.DeepEqual(l, w.want) {
			t.Errorf("%d in each: %v", w.most, l)
		}
	}
	for _, most := range []int{0, -1, -5, math.MinInt} {
		for _, c := range rights() {
			if l := chunk.Split(c, most); len(l) != 0 {
				t.Errorf("%d in each: %v", most, l)
			}
		}
	}
}

// P406

func TestP406Split(t *testing.T) {
	r := rand.New(rand.NewPCG(4, 6))
	for _, c := range some() {
		n := len(c.Rows)
		for _, most := range []int{1, 2, 3, n - 1, n, n + 1, 1 + r.IntN(n), 999, 1000, 1001, math.MaxInt - 1, math.MaxInt} {
			if most > 0 {
				wantSplit(t, c, most, chunk.Split(c, most))
			}
		}
	}
}
