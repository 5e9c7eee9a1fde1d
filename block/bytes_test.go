package block_test

import (
	"fmt"
	"math"
	"math/rand/v2"
	"slices"
	"strings"
	"testing"

	"icehouse/api"
	"icehouse/block"
	"icehouse/planner"
)

// some: a Meta, each number of which is another one, some of them of two bytes.
func some() planner.Meta {
	return planner.Meta{ID: 5, Least: 50, Most: 270, First: 6, Last: 9, Rows: 4, Bytes: 300, Level: 2}
}

// least, greatest: as small, and as great, as may be.
func least() planner.Meta { return planner.Meta{ID: 1, First: 1, Last: 1, Rows: 1} }

func greatest() planner.Meta {
	return planner.Meta{ID: most, Most: most, First: 1, Last: most, Rows: most, Bytes: most, Level: 20}
}

// anyMeta: one that may be.
func anyMeta(r *rand.Rand) planner.Meta {
	upTo := func(n int) int { return r.IntN(n>>r.IntN(40) + 1) }
	m := planner.Meta{ID: 1 + upTo(most-1), Least: upTo(most), First: 1 + upTo(most-1), Rows: 1 + upTo(most-1), Bytes: upTo(most), Level: r.IntN(21)}
	m.Most, m.Last = m.Least+upTo(most-m.Least), m.First+upTo(most-m.First)
	return m
}

// sums: at each limit, and some between.
var sums = []int{0, 1, 127, 128, 1 << 14, 0xdeadbeef, mostSum - 1, mostSum}

// wrongSums: past each limit.
var wrongSums = []int{math.MinInt, -mostSum, -1, mostSum + 1, mostSum + 2, 1 << 40, 1<<56 - 1, 1 << 56, math.MaxInt}

// several: Metas that may be, of several sizes.
func several() []planner.Meta {
	r := rand.New(rand.NewPCG(16, 2))
	l := []planner.Meta{some(), least(), greatest()}
	for range 20 {
		l = append(l, anyMeta(r))
	}
	return l
}

// wantMeta: whether Meta and sum may be, and so what each call says of them.
func wantMeta(t *testing.T, what string, m planner.Meta, sum int, may bool) {
	t.Helper()
	if may != (mayBe(m) && in(sum, 0, mostSum)) {
		t.Fatalf("%s: the model thinks otherwise of %v %d", what, m, sum)
	}
	b, e := block.PutMeta(m, sum)
	if !may {
		if len(b) > 0 || e != api.ErrArg {
			t.Errorf("%s: PutMeta(%v, %d): %q %d", what, m, sum, b, e)
		}
		wrong := func(n int) bool { return n < 0 }
		if !slices.ContainsFunc(append(numbers(m), sum), wrong) {
			wantNone(t, what, metaBytes(m, sum))
		}
		return
	}
	if string(b) != string(metaBytes(m, sum)) || e != api.OK {
		t.Errorf("%s: PutMeta(%v, %d): %q %d, want %q", what, m, sum, b, e, metaBytes(m, sum))
	}
	if got, gotSum, e := block.GetMeta(metaBytes(m, sum)); got != m || gotSum != sum || e != api.OK {
		t.Errorf("%s: GetMeta: %v %d %d, want %v %d", what, got, gotSum, e, m, sum)
	}
}

// wantNone: bytes that are none of a meta.
func wantNone(t *testing.T, what string, b []byte) {
	t.Helper()
	if m, sum, e := block.GetMeta(b); m != (planner.Meta{}) || sum != 0 || e != api.ErrForm {
		t.Errorf("%s: GetMeta(%.200q): %v %d %d", what, b, m, sum, e)
	}
}

// P1602

// TestP1602Bytes: as they are written out.
func TestP1602Bytes(t *testing.T) {
	for _, c := range []struct {
		m   planner.Meta
		sum int
		in  []byte
	}{
		{least(), 0, []byte{8, 1, 0, 0, 1, 0, 1, 0, 0, 0}},
		{some(), 300, []byte{10, 5, 50, 220, 1, 6, 3, 4, 172, 2, 2, 172, 2}},
		{planner.Meta{ID: 300, Least: 7, Most: 7, First: 8, Last: 9, Rows: 1, Bytes: 0, Level: 20}, mostSum, []byte{9, 172, 2, 7, 0, 8, 1, 1, 0, 20, 255, 255, 255, 255, 15}},
		{
			planner.Meta{ID: most, Least: most, Most: most, First: most, Last: most, Rows: most, Bytes: most}, 128,
			slices.Concat([]byte{33}, slices.Concat(top(), top(), []byte{0}, top(), []byte{0}, top(), top()), []byte{0, 128, 1}),
		},
	} {
		want := frame(8, c.in)
		b, e := block.PutMeta(c.m, c.sum)
		if string(b) != string(want) || e != api.OK {
			t.Errorf("PutMeta(%v, %d): %v %d, want %v", c.m, c.sum, b, e, want)
		}
		wantMeta(t, "written out", c.m, c.sum, true)
	}
	// The frame, too, once.
	if b, _ := block.PutMeta(least(), 0); string(b[:3]) != "\xa5\x08\x0a" || len(b) != 17 {
		t.Errorf("%q", b)
	}
}

// top: the greatest number of most.
func top() []byte { return []byte{255, 255, 255, 255, 255, 31} }

// TestP1602Sums: at each limit and past it, of any Meta.
func TestP1602Sums(t *testing.T) {
	for _, m := range several() {
		for _, sum := range sums {
			wantMeta(t, "a sum", m, sum, true)
		}
		for _, sum := range wrongSums {
			wantMeta(t, "no sum", m, sum, false)
		}
	}
	for _, sum := range append(slices.Clone(sums), wrongSums...) {
		wantMeta(t, "no Meta", planner.Meta{}, sum, false)
	}
}

// TestP1602Metas: each number at its limits and past them.
func TestP1602Metas(t *testing.T) {
	for what, c := range map[string]struct {
		of          func(m *planner.Meta) *int
		least, most int
	}{
		"ID":    {func(m *planner.Meta) *int { return &m.ID }, 1, most},
		"Least": {func(m *planner.Meta) *int { return &m.Least }, 0, some().Most},
		"Most":  {func(m *planner.Meta) *int { return &m.Most }, some().Least, most},
		"First": {func(m *planner.Meta) *int { return &m.First }, 1, some().Last},
		"Last":  {func(m *planner.Meta) *int { return &m.Last }, some().First, most},
		"Rows":  {func(m *planner.Meta) *int { return &m.Rows }, 1, most},
		"Bytes": {func(m *planner.Meta) *int { return &m.Bytes }, 0, most},
		"Level": {func(m *planner.Meta) *int { return &m.Level }, 0, 20},
	} {
		for _, n := range []int{c.least, c.least + 1, c.most - 1, c.most} {
			m := some()
			*c.of(&m) = n
			wantMeta(t, fmt.Sprint(what, " ", n), m, 77, true)
		}
		for _, n := range []int{math.MinInt, c.least - 1, c.most + 1, c.most + 2, math.MaxInt} {
			m := some()
			*c.of(&m) = n
			wantMeta(t, fmt.Sprint(what, " ", n), m, 77, false)
			wantMeta(t, fmt.Sprint(what, " ", n, ", no sum"), m, -1, false)
		}
	}
	wantMeta(t, "the least", least(), 0, true)
	wantMeta(t, "the greatest", greatest(), mostSum, true)
	wantMeta(t, "zero", planner.Meta{}, 0, false)
}

// TestP1602ThereAndBack: of any Meta.
func TestP1602ThereAndBack(t *testing.T) {
	r := rand.New(rand.NewPCG(16, 3))
	for range 20000 {
		wantMeta(t, "any", anyMeta(r), r.IntN(mostSum>>r.IntN(32)+1), true)
	}
}

// TestP1602CutOff: bytes that end too early, and that go on.
func TestP1602CutOff(t *testing.T) {
	for _, m := range several() {
		for _, sum := range sums {
			b := metaBytes(m, sum)
			for n := range b {
				wantNone(t, "cut off", b[:n])
				wantNone(t, "cut off in front", b[n+1:])
				wantNone(t, "a byte less", slices.Delete(slices.Clone(b), n, n+1))
				wantNone(t, "a byte twice", slices.Insert(slices.Clone(b), n, b[n]))
			}
			for c := range 256 {
				wantNone(t, "a byte more", append(slices.Clone(b), byte(c)))
				wantNone(t, "a byte ahead", append([]byte{byte(c)}, b...))
			}
			wantNone(t, "twice", append(slices.Clone(b), b...))
			// The same within the frame, with its sum.
			in := within(m, sum)
			for n := range in {
				wantNone(t, "cut off in front, within", frame(kind, in[n+1:]))
				wantNone(t, "cut off within", frame(kind, in[:n]))
			}
			for c := range 256 {
				wantNone(t, "a byte more within", frame(kind, append(slices.Clone(in), byte(c))))
			}
			wantNone(t, "twice within", frame(kind, append(slices.Clone(in), in...)))
			wantNone(t, "a frame within", frame(kind, b))
		}
	}
	for _, text := range []string{"", "\x00", "\xa5", "\xa5\x08", "meta", strings.Repeat("\xa5", 100), strings.Repeat("\x00", 1<<21)} {
		wantNone(t, "any", []byte(text))
		wantNone(t, "any within", frame(kind, []byte(text[:min(len(text), 1000)])))
	}
	wantNone(t, "nil", nil)
}

// TestP1602OneByte: one byte that is another one: the sum tells it.
func TestP1602OneByte(t *testing.T) {
	for _, m := range several() {
		b := metaBytes(m, 0xdeadbeef)
		for i := range b {
			for c := range 255 {
				b[i] ^= byte(c + 1)
				wantNone(t, fmt.Sprint("byte ", i), b)
				b[i] ^= byte(c + 1)
			}
		}
	}
}

// TestP1602OneByteWithin: one byte that is another one, with the right sum: a
// meta that is written so, or none.
func TestP1602OneByteWithin(t *testing.T) {
	right, wrong := 0, 0
	for _, m := range several() {
		for _, sum := range sums {
			in := within(m, sum)
			for i := range in {
				for c := range 256 {
					old := in[i]
					in[i] = byte(c)
					b := frame(kind, in)
					in[i] = old
					want, wantSum, may := metaOf(b)
					if !may {
						wantNone(t, "a byte within", b)
						wrong++
						continue
					}
					wantMeta(t, "a byte within", want, wantSum, true)
					right++
				}
			}
		}
	}
	if right < 10000 || wrong < 10000 {
		t.Error(right, wrong)
	}
}

func TestP1602Kinds(t *testing.T) {
	for _, m := range several() {
		for other := range 256 {
			if other != kind {
				wantNone(t, fmt.Sprint("kind ", other), frame(other, within(m, 7)))
			}
		}
	}
}

// TestP1602Long: each number with a byte more than need be.
func TestP1602Long(t *testing.T) {
	for _, m := range several() {
		for _, sum := range sums {
			var meta []byte
			for _, n := range numbers(m) {
				meta = append(meta, number(n)...)
			}
			if got := frame(kind, slices.Concat(text(meta), number(sum))); string(got) != string(metaBytes(m, sum)) {
				t.Fatal("the test writes otherwise")
			}
			wantNone(t, "a long sum", frame(kind, slices.Concat(text(meta), long(sum))))
			wantNone(t, "a long length", frame(kind, slices.Concat(long(len(meta)), meta, number(sum))))
			for i := range numbers(m) {
				var b []byte
				for j, n := range numbers(m) {
					if i == j {
						b = append(b, long(n)...)
					} else {
						b = append(b, number(n)...)
					}
				}
				wantNone(t, fmt.Sprint("a long number ", i), frame(kind, slices.Concat(text(b), number(sum))))
			}
			for _, length := range []int{0, 1, len(meta) - 1, len(meta) + 1, 1 << 20, 1 << 40} {
				wantNone(t, "another length", frame(kind, slices.Concat(number(length), meta, number(sum))))
			}
			wantNone(t, "without a length", frame(kind, slices.Concat(meta, number(sum))))
			wantNone(t, "without a Meta", frame(kind, slices.Concat(text(nil), number(sum))))
			wantNone(t, "a Meta and more", frame(kind, slices.Concat(text(append(meta, 0)), number(sum))))
			wantNone(t, "the sum ahead", frame(kind, slices.Concat(number(sum), text(meta))))
		}
	}
	// The frame's own length.
	b := metaBytes(least(), 0)
	wantNone(t, "a long length", slices.Concat(b[:2], []byte{b[2] | 128, 0}, b[3:]))
}

// TestP1602AnyBytes: of any bytes GetMeta tells an error, or what is written as the same bytes.
func TestP1602AnyBytes(t *testing.T) {
	r := rand.New(rand.NewPCG(16, 4))
	right := 0
	for range 50000 {
		in := within(anyMeta(r), r.IntN(mostSum))
		for range r.IntN(3) {
			at := r.IntN(len(in))
			in[at] = byte(r.IntN(256))
			if r.IntN(4) == 0 {
				in = slices.Delete(in, at, min(len(in), at+1+r.IntN(2)))
			}
		}
		b := frame(kind, in)
		m, sum, e := block.GetMeta(b)
		if e != api.OK {
			wantNone(t, "any bytes", b)
			continue
		}
		right++
		if again, e := block.PutMeta(m, sum); string(again) != string(b) || e != api.OK {
			t.Fatalf("%q is written as %q %d", b, again, e)
		}
	}
	if right < 1000 || right > 49000 {
		t.Error(right)
	}
}
