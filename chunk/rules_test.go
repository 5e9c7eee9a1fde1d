package chunk_test

import (
	"bytes"
	"math"
	"math/rand/v2"
	"reflect"
	"slices"
	"testing"

	"icehouse/api"
	"icehouse/chunk"
)

// P401

// roomy: a list with more behind it, which no call may change.
func roomy[T any](l []T, behind T) []T {
	return append(slices.Clone(l), behind, behind)[:len(l)]
}

// whole: a list with the two things that lie behind it.
func whole[T any](l []T) []T { return slices.Clone(l[:len(l)+2]) }

func TestP401NothingIsChanged(t *testing.T) {
	mark := api.Label{Name: "mark", Value: "mark"}
	for _, c := range append(wrongs(), example(), long(1, 1000), largest()) {
		c := chunk.Chunk{Labels: roomy(c.Labels, mark), Rows: roomy(c.Rows, row(77, 1, "mark"))}
		labels, rows := whole(c.Labels), whole(c.Rows)
		chunk.Right(c)
		chunk.Put(c)
		chunk.Bounds(c)
		chunk.Between(c, 0, api.MaxTime)
		for _, most := range []int{-1, 0, 1, 2, 999, 5000} {
			chunk.Split(c, most)
		}
		if !slices.Equal(labels, whole(c.Labels)) || !slices.Equal(rows, whole(c.Rows)) {
			t.Error("changed", c)
		}
		b := roomy(written(c), 0xee)
		before := whole(b)
		chunk.Get(b)
		chunk.Get(b[:len(b)/2])
		if !bytes.Equal(before, whole(b)) {
			t.Error("changed", b)
		}
	}
}

func TestP401GroupChangesNothing(t *testing.T) {
	mark := api.Label{Name: "mark", Value: "mark"}
	fresh := func() []api.Entry {
		l := jumble(rand.New(rand.NewPCG(4, 11)), 100)
		for i := range l {
			l[i].Labels = roomy(l[i].Labels, mark)
		}
		return roomy(l, entry(77, 1, "mark", "a", "x"))
	}
	l, want := fresh(), fresh()
	chunk.Group(l)
	if !reflect.DeepEqual(whole(l), whole(want)) {
		t.Error("changed", l)
	}
	for i := range l {
		if !slices.Equal(whole(l[i].Labels), whole(want[i].Labels)) {
			t.Error("changed", l[i])
		}
	}
}

// spoil: all that can be reached from the chunk is overwritten, the room behind the lists too.
func spoil(c chunk.Chunk) {
	clear(c.Labels[:cap(c.Labels)])
	clear(c.Rows[:cap(c.Rows)])
}

// TestP401ChunksShareNothing: with what was handed in, with another answer, with one another.
func TestP401ChunksShareNothing(t *testing.T) {
	labels := of("a", "x")
	rows := []chunk.Row{row(3, 1, "a"), row(1, 2, "b"), row(2, 3, "c"), row(9, 4, "d"), row(8, 5, "e")}
	c := chunk.Chunk{Labels: labels, Rows: rows}
	var l []api.Entry
	for _, x := range long(1, 2500).Rows {
		l = append(l, api.Entry{Seq: x.Seq, Time: x.Time, Labels: labels, Line: x.Line})
	}
	b := written(example())
	for name, answer := range map[string]func() []chunk.Chunk{
		"Split":  func() []chunk.Chunk { return chunk.Split(c, 2) },
		"whole":  func() []chunk.Chunk { return chunk.Split(c, 5) },
		"Group":  func() []chunk.Chunk { return chunk.Group(l) },
		"pieces": func() []chunk.Chunk { return chunk.Split(long(1, 1000), 10) },
		"Get":    func() []chunk.Chunk { c, _ := chunk.Get(b); return []chunk.Chunk{c} },
	} {
		first, second, want := answer(), answer(), answer()
		for i := range first {
			spoil(first[i])
			if !reflect.DeepEqual(first[i+1:], want[i+1:]) {
				t.Fatal(name, "shares within an answer", i)
			}
		}
		clear(first[:cap(first)])
		if !reflect.DeepEqual(second, want) {
			t.Error(name, "shares with another answer")
		}
		if !reflect.DeepEqual(answer(), want) {
			t.Error(name, "shares with what is handed in")
		}
	}
	split, group := chunk.Split(c, 2), chunk.Group(l)
	got, _ := chunk.Get(b)
	clear(labels)
	clear(rows)
	clear(l)
	clear(b)
	wantSplit(t, ax(row(3, 1, "a"), row(1, 2, "b"), row(2, 3, "c"), row(9, 4, "d"), row(8, 5, "e")), 2, split)
	if len(group) != 3 || !reflect.DeepEqual(group[0], long(1, 1000)) || !reflect.DeepEqual(got, example()) {
		t.Error("kept what was handed in")
	}
}

func TestP401EntriesShareNothing(t *testing.T) {
	c := long(1, 20)
	first, second := chunk.Between(c, 2, 8), chunk.Between(c, 2, 8)
	want := slices.Clone(entries(long(1, 20))[4:16])
	for i := range first {
		clear(first[i].Labels[:cap(first[i].Labels)])
		if !reflect.DeepEqual(first[i+1:], want[i+1:]) {
			t.Fatal("shared within an answer", i)
		}
	}
	clear(first[:cap(first)])
	spoil(c)
	if !reflect.DeepEqual(second, want) {
		t.Error("shared", second)
	}
}

func TestP401BytesAreNew(t *testing.T) {
	first, _ := chunk.Put(example())
	second, _ := chunk.Put(example())
	clear(first[:cap(first)])
	third, _ := chunk.Put(example())
	if !bytes.Equal(second, written(example())) || !bytes.Equal(third, second) {
		t.Error("shared", second, third)
	}
}

// TestP401NilAndEmpty: they mean the same, and of nothing there is nothing.
func TestP401NilAndEmpty(t *testing.T) {
	for _, c := range []chunk.Chunk{{}, {Labels: []api.Label{}}, {Rows: []chunk.Row{}}, {Labels: []api.Label{}, Rows: []chunk.Row{}}} {
		b, e := chunk.Put(c)
		if chunk.Right(c) || len(b) != 0 || e != api.ErrArg || len(chunk.Between(c, 0, math.MaxInt)) != 0 || len(chunk.Split(c, 1)) != 0 {
			t.Error(c)
		}
	}
	for _, b := range [][]byte{nil, {}} {
		wantNone(t, "nothing", b)
	}
}

// TestP401TheSameAgain: what is asked twice is answered the same.
func TestP401TheSameAgain(t *testing.T) {
	r := rand.New(rand.NewPCG(4, 12))
	for range 200 {
		c, l := random(r), jumble(r, r.IntN(40))
		ask := func() []any {
			b, e := chunk.Put(c)
			back, f := chunk.Get(b)
			least, most, first, last := chunk.Bounds(c)
			return []any{b, e, back, f, least, most, first, last, chunk.Between(c, least, most), chunk.Split(c, 2), chunk.Group(l)}
		}
		if a, b := ask(), ask(); !reflect.DeepEqual(a, b) {
			t.Fatal(a, b)
		}
	}
}
