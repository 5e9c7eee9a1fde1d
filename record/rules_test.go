package record_test

import (
	"bytes"
	"math/rand/v2"
	"reflect"
	"slices"
	"testing"

	"icehouse/api"
	"icehouse/record"
)

// P301

func TestP301NothingIsChanged(t *testing.T) {
	mark := entry(77, 1, "mark")
	markLabel := api.Label{Name: "mark", Value: "mark"}
	fresh := func() []api.Entry {
		l := append(run(5, 3), mark, mark) // the last two stand for the room behind the list
		for i := range l {
			l[i].Labels = append(l[i].Labels, markLabel, markLabel)[:1]
		}
		l[0], l[1] = l[1], l[0]
		return l
	}
	// whole: all that lies in the lists' memory, the room behind them too.
	whole := func(l []api.Entry) []any {
		var out []any
		for _, x := range l {
			out = append(out, x.Seq, x.Time, x.Line, slices.Clone(x.Labels[:3]))
		}
		return out
	}
	l := fresh()
	for _, x := range l[:3] {
		record.Right(x)
		record.Put(x)
		record.Size(x)
		record.Before(x, l[0])
	}
	record.Sort(l[:3])
	record.PutBatch(l[:3])
	record.PutBatch(l[1:2])
	if !reflect.DeepEqual(whole(l), whole(fresh())) {
		t.Error("changed", l)
	}
	for _, b := range [][]byte{written(entry(1, 2, "u")), writtenBatch(run(1, 3))} {
		all := append(bytes.Clone(b), 1, 2, 3)
		before := bytes.Clone(all)
		for _, part := range [][]byte{all[:len(b)], all, all[:3]} {
			record.Get(part)
			record.GetBatch(part)
		}
		if !bytes.Equal(all, before) {
			t.Error("changed", all)
		}
	}
}

// spoil: all that can be reached from the entries is overwritten, the room behind the lists too.
func spoil(l []api.Entry) {
	for _, x := range l[:cap(l)] {
		clear(x.Labels[:cap(x.Labels)])
	}
	clear(l[:cap(l)])
}

func TestP301SortSharesNothing(t *testing.T) {
	labels := ax()
	in := []api.Entry{
		{Seq: 3, Time: 3, Labels: labels},
		{Seq: 2, Time: 2, Labels: labels},
		{Seq: 1, Time: 1, Labels: labels},
	}
	want := []api.Entry{entry(1, 1, ""), entry(2, 2, ""), entry(3, 3, "")}
	first, second := record.Sort(in), record.Sort(in)
	wantOrder(t, first, want)
	// The labels of two entries of one answer lie apart, though they were handed in as one list.
	first[0].Labels[0].Name = "other"
	_ = append(first[1].Labels, api.Label{Name: "behind"})
	wantOrder(t, first[1:], want[1:])
	wantOrder(t, in, []api.Entry{entry(3, 3, ""), entry(2, 2, ""), entry(1, 1, "")})
	spoil(first)
	wantOrder(t, second, want)
	wantOrder(t, in, []api.Entry{entry(3, 3, ""), entry(2, 2, ""), entry(1, 1, "")})
	spoil(in)
	wantOrder(t, second, want)
	// Also where nothing had to move.
	in = run(1, 1)
	out := record.Sort(in)
	spoil(in)
	wantOrder(t, out, run(1, 1))
}

func TestP301AnswersAreNew(t *testing.T) {
	one, all := written(entry(1, 2, "u")), writtenBatch(run(1, 3))
	get := func() []api.Entry { x, _ := record.Get(one); return []api.Entry{x} }
	getBatch := func() []api.Entry { l, _ := record.GetBatch(all); return l }
	for _, answer := range []func() []api.Entry{get, getBatch} {
		first, second := answer(), answer()
		want := answer()
		spoil(first)
		wantOrder(t, second, want)
		wantOrder(t, answer(), want)
		if len(want) > 1 {
			clear(want[0].Labels[:cap(want[0].Labels)])
			wantOrder(t, want[1:], second[1:])
		}
	}
	kept, keptBatch := get(), getBatch()
	clear(one)
	clear(all)
	wantOrder(t, kept, []api.Entry{entry(1, 2, "u")})
	wantOrder(t, keptBatch, run(1, 3))
	for _, answer := range []func() []byte{
		func() []byte { b, _ := record.Put(entry(1, 2, "u")); return b },
		func() []byte { b, _ := record.PutBatch(run(1, 3)); return b },
	} {
		first, second := answer(), answer()
		clear(first[:cap(first)])
		if third := answer(); !bytes.Equal(second, third) || bytes.Equal(first, third) {
			t.Error("shared", first, second, third)
		}
	}
}

// TestP301TheSameAgain: what is asked twice is answered the same.
func TestP301TheSameAgain(t *testing.T) {
	r := rand.New(rand.NewPCG(3, 1))
	for range 200 {
		l := some(r, r.IntN(20))
		batch := run(1+r.IntN(1000), r.IntN(18))
		ask := func() []any {
			b, e := record.PutBatch(batch)
			back, f := record.GetBatch(b)
			p, g := record.Put(random(rand.New(rand.NewPCG(1, 1))))
			x, h := record.Get(p)
			return []any{b, e, back, f, p, g, x, h, record.Size(x), record.Sort(l)}
		}
		if a, b := ask(), ask(); !reflect.DeepEqual(a, b) {
			t.Fatal(a, b)
		}
	}
}
