package planner_test

import (
	"bytes"
	"math"
	"math/rand/v2"
	"slices"
	"testing"

	"icehouse/api"
	"icehouse/planner"
)

// greatest: the greatest ID, number, time, Rows and Bytes.
const greatest = 1<<40 - 1

// meta: of a block with that ID, of times from least to most, of level 0.
func meta(id, least, most int) planner.Meta {
	return planner.Meta{ID: id, Least: least, Most: most, First: id, Last: id, Rows: 1, Bytes: 1}
}

// fields: those of a Meta, in the order of its bytes.
func fields(m *planner.Meta) []*int {
	return []*int{&m.ID, &m.Least, &m.Most, &m.First, &m.Last, &m.Rows, &m.Bytes, &m.Level}
}

// number: n as it is written, told apart from package codec.
func number(n int) []byte {
	b := []byte{}
	for n >= 128 {
		b = append(b, byte(n%128+128))
		n /= 128
	}
	return append(b, byte(n))
}

func numbers(l ...int) []byte {
	b := []byte{}
	for _, n := range l {
		b = append(b, number(n)...)
	}
	return b
}

// written: the bytes of a Meta, whether it may be or not.
func written(m planner.Meta) []byte {
	return numbers(m.ID, m.Least, m.Most-m.Least, m.First, m.Last-m.First, m.Rows, m.Bytes, m.Level)
}

func least() planner.Meta { return planner.Meta{ID: 1, First: 1, Last: 1, Rows: 1} }

func most() planner.Meta {
	return planner.Meta{
		ID: greatest, Least: greatest, Most: greatest, First: greatest, Last: greatest,
		Rows: greatest, Bytes: greatest, Level: 20,
	}
}

func middle() planner.Meta {
	return planner.Meta{ID: 5, Least: 100, Most: 300, First: 7, Last: 400, Rows: 20, Bytes: 1000, Level: 3}
}

// with: m with the field of that place being n.
func with(m planner.Meta, place, n int) planner.Meta {
	*fields(&m)[place] = n
	return m
}

// rights: Metas that may be, each field at its edges among them.
func rights() []planner.Meta {
	m := middle()
	l := []planner.Meta{least(), most(), m}
	for place, edges := range [][]int{
		{1, 2, greatest - 1, greatest},   // ID
		{0, 1, m.Most - 1, m.Most},       // Least
		{m.Least, m.Least + 1, greatest}, // Most
		{1, 2, m.Last - 1, m.Last},       // First
		{m.First, m.First + 1, greatest}, // Last
		{1, 2, greatest - 1, greatest},   // Rows
		{0, 1, greatest - 1, greatest},   // Bytes
		{0, 1, 19, 20},                   // Level
	} {
		for _, n := range edges {
			l = append(l, with(m, place, n))
		}
	}
	wide := least()
	wide.Most, wide.Last, wide.Level = greatest, greatest, 20
	// Nothing is asked of one field and another but of the two pairs.
	return append(l, wide, planner.Meta{ID: 9, Least: 5, Most: 5, First: 1, Last: 1, Rows: 3, Level: 1})
}

// wrongs: Metas that may not be, with numbers that can be written, and all but one field that may be.
func wrongs() []planner.Meta {
	m := middle()
	l := []planner.Meta{{}}
	for place, edges := range [][]int{
		{0, greatest + 1, greatest + 2},
		{greatest + 1},
		{greatest + 1, greatest + 2},
		{0},
		{greatest + 1, greatest + 2},
		{0, greatest + 1, greatest + 2},
		{greatest + 1, greatest + 2},
		{21, 22, 127, 128, greatest},
	} {
		for _, n := range edges {
			m := with(m, place, n)
			m.Most, m.Last = max(m.Most, m.Least), max(m.Last, m.First)
			l = append(l, m)
		}
	}
	high := most()
	high.Most++
	late := most()
	late.Last++
	return append(l, high, late)
}

// beyond: Metas that may not be, and of which some number can't be written.
func beyond() []planner.Meta {
	m := middle()
	l := []planner.Meta{with(m, 1, m.Most+1), with(m, 2, m.Least-1), with(m, 3, m.Last+1), with(m, 4, m.First-1)}
	for place := range 8 {
		for _, n := range []int{-1, -2, -greatest, math.MinInt, math.MinInt + 1, math.MaxInt, math.MaxInt - 1} {
			l = append(l, with(m, place, n))
		}
	}
	for _, n := range []int{-1, math.MinInt, math.MaxInt, 1 << 56} {
		all := planner.Meta{}
		for _, field := range fields(&all) {
			*field = n
		}
		l = append(l, all)
	}
	return l
}

func wantGet(t *testing.T, what string, b []byte, want planner.Meta, wantE api.Errno) {
	t.Helper()
	if m, e := planner.Get(b); m != want || e != wantE {
		t.Errorf("%s: Get(% x): %v %d, want %v %d", what, b[:min(len(b), 60)], m, e, want, wantE)
	}
}

func wantNone(t *testing.T, what string, b []byte) {
	t.Helper()
	wantGet(t, what, b, planner.Meta{}, api.ErrForm)
}

// P902

func TestP902Right(t *testing.T) {
	for _, m := range rights() {
		if !planner.Right(m) {
			t.Error("it may be:", m)
		}
	}
	for _, m := range append(wrongs(), beyond()...) {
		if planner.Right(m) {
			t.Error("it may not be:", m)
		}
	}
}

// mayBe: the chapter's words, one by one.
func mayBe(m planner.Meta) bool {
	switch {
	case m.ID < 1, m.ID > greatest, m.Rows < 1, m.Rows > greatest, m.Bytes < 0, m.Bytes > greatest:
		return false
	case m.Least < 0, m.Least > m.Most, m.Most >= api.MaxTime:
		return false
	case m.First < 1, m.First > m.Last, m.Last >= api.MaxSeq:
		return false
	}
	return m.Level >= 0 && m.Level <= 20
}

// TestP902RightAtEdges: any fields together, each at an edge or beyond it.
func TestP902RightAtEdges(t *testing.T) {
	r := rand.New(rand.NewPCG(9, 1))
	edges := []int{
		0, 0, 1, 1, 1, 2, 2, 3, 19, 20, 21, 50, greatest - 1, greatest, greatest, greatest + 1,
		-1, math.MinInt, math.MaxInt,
	}
	good := 0
	for range 200000 {
		var m planner.Meta
		for _, field := range fields(&m) {
			*field = edges[r.IntN(len(edges)-r.IntN(2)*3)]
		}
		if planner.Right(m) != mayBe(m) {
			t.Fatal(m, planner.Right(m))
		}
		if b, e := planner.Put(m); mayBe(m) != (e == api.OK) || mayBe(m) && !bytes.Equal(b, written(m)) {
			t.Fatal(m, b, e)
		}
		if mayBe(m) {
			good++
		}
	}
	if good < 500 {
		t.Error("too few may be:", good)
	}
}

func TestP902Fine(t *testing.T) {
	a, b, c := meta(1, 2, 3), meta(2, 2, 3), meta(3, 2, 3)
	twin := meta(1, 5, 9)
	for _, x := range []struct {
		what string
		l    []planner.Meta
		want bool
	}{
		{"nil", nil, true},
		{"empty", []planner.Meta{}, true},
		{"one", []planner.Meta{a}, true},
		{"the least and the greatest", []planner.Meta{least(), most()}, true},
		{"several", []planner.Meta{a, b, c}, true},
		{"several, falling", []planner.Meta{c, b, a}, true},
		{"all but the ID the same", []planner.Meta{middle(), with(middle(), 0, 6), with(middle(), 0, 7)}, true},
		{"twice the same", []planner.Meta{a, a}, false},
		{"one ID twice, of others", []planner.Meta{a, twin}, false},
		{"the first and the last", []planner.Meta{a, b, c, twin}, false},
		{"the last two", []planner.Meta{b, c, a, twin}, false},
		{"thrice", []planner.Meta{a, a, twin}, false},
		{"the zero one", []planner.Meta{{}}, false},
		{"two of the ID 0", []planner.Meta{{}, {}}, false},
	} {
		if planner.Fine(x.l) != x.want {
			t.Errorf("%s: %v", x.what, !x.want)
		}
	}
	for _, m := range append(wrongs(), beyond()...) {
		x, y := with(least(), 0, 77), with(least(), 0, 78)
		for _, l := range [][]planner.Meta{{m}, {m, x, y}, {x, m, y}, {x, y, m}} {
			if planner.Fine(l) {
				t.Error("not all may be:", l)
			}
		}
	}
}

// TestP902LongLists: also such as are far longer than any the store has.
func TestP902LongLists(t *testing.T) {
	l := []planner.Meta{}
	for i := range 100000 {
		l = append(l, meta(1+i, i, 2*i))
	}
	if !planner.Fine(l) {
		t.Error("it is fine")
	}
	if planner.Fine(append(l, meta(50000, 1, 2))) {
		t.Error("one ID twice")
	}
	l[70000].Rows = 0
	if planner.Fine(l) {
		t.Error("one may not be")
	}
}

func TestP902Put(t *testing.T) {
	b, e := planner.Put(middle())
	want := []byte{5, 100, 200, 1, 7, 137, 3, 20, 232, 7, 3}
	if !bytes.Equal(b, want) || e != api.OK {
		t.Error(b, e)
	}
	for _, m := range rights() {
		if b, e := planner.Put(m); !bytes.Equal(b, written(m)) || e != api.OK {
			t.Error(m, b, e)
		}
	}
	for _, m := range append(wrongs(), beyond()...) {
		if b, e := planner.Put(m); len(b) != 0 || e != api.ErrArg {
			t.Error(m, b, e)
		}
	}
}

func TestP902Get(t *testing.T) {
	for _, m := range rights() {
		b := written(m)
		wantGet(t, "Get", b, m, api.OK)
		for n := range b {
			wantNone(t, "cut off", b[:n])
		}
		wantNone(t, "without the ID", b[len(number(m.ID)):])
		for c := range 256 {
			wantNone(t, "a byte more", append(slices.Clone(b), byte(c)))
		}
		wantNone(t, "twice", append(slices.Clone(b), b...))
	}
	// Written well, but they may not be.
	for _, m := range wrongs() {
		wantNone(t, "what may not be", written(m))
	}
}

// TestP902GetAnotherByte: either it is no Meta, or another one.
func TestP902GetAnotherByte(t *testing.T) {
	for _, m := range rights() {
		b := written(m)
		for i := range b {
			for c := range 256 {
				other := slices.Clone(b)
				other[i] = byte(c)
				got, e := planner.Get(other)
				switch {
				case other[i] == b[i]:
					wantGet(t, "the same", other, m, api.OK)
				case e == api.OK:
					if got == m || !mayBe(got) || !bytes.Equal(written(got), other) {
						t.Errorf("Get(% x): %v", other, got)
					}
				default:
					wantNone(t, "another byte", other)
				}
			}
		}
	}
}

// TestP902GetNone: numbers that are written well, and make what may not be, and
// others that are not written so.
func TestP902GetNone(t *testing.T) {
	const huge = 1<<56 - 1
	for _, b := range [][]byte{
		nil, {}, {0}, {1}, {128}, {255}, make([]byte, 8), make([]byte, 1<<20), bytes.Repeat([]byte{255}, 1000),
		numbers(1, 0, 0, 1, 0, 1, 0),
		numbers(1, 0, 0, 1, 0, 1, 0, 0, 0),
		numbers(0, 0, 0, 1, 0, 1, 0, 0),
		numbers(huge, 0, 0, 1, 0, 1, 0, 0),
		numbers(1, huge, 0, 1, 0, 1, 0, 0),
		numbers(1, 0, huge, 1, 0, 1, 0, 0),
		numbers(1, huge, huge, 1, 0, 1, 0, 0),
		numbers(1, 0, 0, huge, 0, 1, 0, 0),
		numbers(1, 0, 0, 1, huge, 1, 0, 0),
		numbers(1, 0, 0, huge, huge, 1, 0, 0),
		numbers(1, 0, 0, 1, 0, huge, 0, 0),
		numbers(1, 0, 0, 1, 0, 1, huge, 0),
		numbers(1, 0, 0, 1, 0, 1, 0, huge),
		numbers(1, 1, greatest, 1, 0, 1, 0, 0),
		numbers(1, greatest, 1, 1, 0, 1, 0, 0),
		numbers(1, 0, greatest+1, 1, 0, 1, 0, 0),
		numbers(1, 0, 0, 1, greatest, 1, 0, 0),
		numbers(1, 0, 0, 2, greatest-1, 1, 0, 0),
		numbers(1, 0, 0, greatest, 1, 1, 0, 0),
		// A number that is not written as numbers are, in each place.
		append([]byte{129, 0}, numbers(0, 0, 1, 0, 1, 0, 0)...),
		append(append(numbers(1), 128, 0), numbers(0, 1, 0, 1, 0, 0)...),
		append(append(numbers(1, 0), 128, 0), numbers(1, 0, 1, 0, 0)...),
		append(append(numbers(1, 0, 0), 129, 0), numbers(0, 1, 0, 0)...),
		append(append(numbers(1, 0, 0, 1), 128, 0), numbers(1, 0, 0)...),
		append(append(numbers(1, 0, 0, 1, 0), 129, 0), numbers(0, 0)...),
		append(append(numbers(1, 0, 0, 1, 0, 1), 128, 0), numbers(0)...),
		append(numbers(1, 0, 0, 1, 0, 1, 0), 128, 0),
		append(numbers(1, 0, 0, 1, 0, 1, 0), 255, 255, 255, 255, 255, 255, 255, 255, 1),
	} {
		wantNone(t, "none", b)
	}
	wantGet(t, "the least one", numbers(1, 0, 0, 1, 0, 1, 0, 0), least(), api.OK)
	wantGet(t, "the greatest one", numbers(greatest, greatest, 0, greatest, 0, greatest, greatest, 20), most(), api.OK)
	wide := least()
	wide.Most, wide.Last = greatest, greatest
	wantGet(t, "the widest one", numbers(1, 0, greatest, 1, greatest-1, 1, 0, 0), wide, api.OK)
}

// TestP902ThereAndBack: Get of Put is the Meta, and Put of Get the bytes.
func TestP902ThereAndBack(t *testing.T) {
	r := rand.New(rand.NewPCG(9, 2))
	for range 20000 {
		m := anyMeta(r)
		b, e := planner.Put(m)
		if e != api.OK || !bytes.Equal(b, written(m)) {
			t.Fatal(m, b, e)
		}
		wantGet(t, "Get of Put", b, m, api.OK)
		b[r.IntN(len(b))] = byte(r.IntN(256))
		got, e := planner.Get(b)
		if e != api.OK {
			wantNone(t, "bent", b)
		} else if again, e := planner.Put(got); e != api.OK || !bytes.Equal(again, b) {
			t.Fatalf("% x: %v % x %d", b, got, again, e)
		}
	}
}

// anyMeta: one that may be, its numbers of any length.
func anyMeta(r *rand.Rand) planner.Meta {
	upto := func(n int) int { return r.IntN(n+1) >> r.IntN(40) }
	m := planner.Meta{ID: 1 + upto(greatest-1), Least: upto(greatest), First: 1 + upto(greatest-1)}
	m.Most = m.Least + upto(greatest-m.Least)
	m.Last = m.First + upto(greatest-m.First)
	m.Rows, m.Bytes, m.Level = 1+upto(greatest-1), upto(greatest), r.IntN(21)
	return m
}
