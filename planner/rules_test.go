package planner_test

import (
	"bytes"
	"math"
	"math/rand/v2"
	"slices"
	"testing"

	"icehouse/api"
	"icehouse/planner"
)

// P901

// notFine: lists that are not fine, though much could be told of their blocks.
func notFine() [][]planner.Meta {
	a, b, c := meta(1, 0, 0), meta(2, 0, 0), meta(3, 0, 0)
	l := [][]planner.Meta{{a, b, c, a}, {a, a}, {a, b, b, c}, {a, b, c, meta(1, 7, 9)}, {{}}, {a, b, {}}}
	for _, m := range append(wrongs(), beyond()...) {
		l = append(l, []planner.Meta{m}, []planner.Meta{m, a, b, c}, []planner.Meta{a, b, c, m})
	}
	return l
}

func wantNothing(t *testing.T, l []planner.Meta) {
	t.Helper()
	for _, at := range []int{math.MinInt, -1, 0, 1, 5, 1000, math.MaxInt} {
		for _, to := range []int{math.MinInt, 0, 1, 5, math.MaxInt} {
			wantIDs(t, "Look", planner.Look(l, at, to))
			wantIDs(t, "Over", planner.Over(l, to, at))
		}
		for _, fan := range []int{2, 3, 16} {
			wantIDs(t, "Pack", planner.Pack(l, wide(fan), at))
		}
		wantNotJoined(t, "Joined", l, 9)
	}
}

func TestP901NotFine(t *testing.T) {
	for _, l := range notFine() {
		if planner.Fine(l) {
			t.Error("it is not fine:", l)
		}
		wantNothing(t, l)
	}
	// Each call tells something of the same list, once it is fine.
	l := []planner.Meta{meta(1, 0, 0), meta(2, 0, 0), meta(3, 0, 0)}
	wantIDs(t, "Look", planner.Look(l, 0, 1), 1, 2, 3)
	wantIDs(t, "Over", planner.Over(l, 1, 5), 1, 2, 3)
	wantIDs(t, "Pack", planner.Pack(l, wide(2), 0), 1, 2)
	if _, ok := planner.Joined(l, 9); !ok {
		t.Error("not joined")
	}
}

func TestP901Empty(t *testing.T) {
	for _, l := range [][]planner.Meta{nil, {}, make([]planner.Meta, 0, 5)} {
		if !planner.Fine(l) {
			t.Error("it is fine")
		}
		wantNothing(t, l)
	}
}

// extremes: numbers at which a sum or a difference may run over.
func extremes() []int {
	return []int{math.MinInt, math.MinInt + 1, -1 << 40, -1, 0, 1, 2, 16, 17, greatest, 1 << 40, 1 << 56, math.MaxInt - 1, math.MaxInt}
}

// TestP901AnyNumbers: every call ends, and what it tells is of the list.
func TestP901AnyNumbers(t *testing.T) {
	l := []planner.Meta{least(), most(), middle(), meta(2, 0, greatest), with(most(), 0, 77), with(most(), 0, 78)}
	for _, a := range extremes() {
		for _, b := range extremes() {
			byID(t, l, planner.Look(l, a, b))
			byID(t, l, planner.Over(l, a, b))
			for _, c := range extremes() {
				for _, now := range extremes() {
					rules := planner.Rules{Fan: a, MaxBytes: b, Keep: c}
					ids := planner.Pack(l, rules, now)
					byID(t, l, ids)
					if len(ids) > 0 && (a < 2 || a > 16 || b < 1 || c < 1 || len(ids) != a) {
						t.Fatal(rules, now, ids)
					}
				}
			}
		}
		if m, ok := planner.Joined(l[:1], a); ok != (a >= 1 && a <= greatest) || ok != planner.Right(m) {
			t.Error(a, m, ok)
		}
	}
}

// TestP901NothingIsChanged: not even the room behind a list.
func TestP901NothingIsChanged(t *testing.T) {
	r := rand.New(rand.NewPCG(9, 8))
	lists := notFine()
	for range 300 {
		lists = append(lists, anyList(r))
	}
	for _, l := range lists {
		mark := with(meta(99, 1, 2), 7, 5)
		room := append(slices.Clone(l), mark, mark, mark)
		want := slices.Clone(room)
		given := room[:len(l)]
		planner.Fine(given)
		planner.Look(given, 0, 100)
		planner.Over(given, 1, 1000)
		planner.Over(given, 20, 60)
		planner.Joined(given, 7)
		for _, now := range []int{0, 40, 90, 1000} {
			planner.Pack(given, wide(2), now)
			planner.Pack(given, planner.Rules{Fan: 3, MaxBytes: 100, Keep: 20}, now)
		}
		if !slices.Equal(room, want) {
			t.Fatal("changed:", room, "was", want)
		}
		for _, m := range l {
			b := append(written(m), "room"...)
			before := slices.Clone(b)
			planner.Get(b[:len(b)-4])
			planner.Get(b)
			if !bytes.Equal(b, before) {
				t.Fatal("changed:", b)
			}
		}
	}
}

// TestP901AnswersAreNew: what was answered may be changed, and nothing else changes.
func TestP901AnswersAreNew(t *testing.T) {
	l := []planner.Meta{meta(3, 0, 0), meta(1, 0, 0), meta(2, 0, 0)}
	want := slices.Clone(l)
	for name, c := range map[string]struct {
		answer func() []int
		want   []int
	}{
		"Look": {func() []int { return planner.Look(l, 0, 1) }, []int{3, 1, 2}},
		"Over": {func() []int { return planner.Over(l, 1, 5) }, []int{3, 1, 2}},
		"Pack": {func() []int { return planner.Pack(l, wide(3), 0) }, []int{1, 2, 3}},
	} {
		first, second := c.answer(), c.answer()
		clear(first[:cap(first)])
		wantIDs(t, name, second, c.want...)
		wantIDs(t, name, c.answer(), c.want...)
		if !slices.Equal(l, want) {
			t.Error("changed:", l)
		}
	}
	first, _ := planner.Put(middle())
	second, _ := planner.Put(middle())
	clear(first[:cap(first)])
	if third, e := planner.Put(middle()); !bytes.Equal(second, written(middle())) || !bytes.Equal(third, second) || e != api.OK {
		t.Error(second, third, e)
	}
}

// TestP901TheSameAgain: the same is answered to the same, whatever was asked in between.
func TestP901TheSameAgain(t *testing.T) {
	tell := func() []int {
		r := rand.New(rand.NewPCG(9, 9))
		out := []int{}
		for range 300 {
			l, rules, now := anyList(r), anyRules(r), r.IntN(100)
			out = append(out, planner.Look(l, now, now+9)...)
			out = append(out, planner.Over(l, rules.Keep, now)...)
			out = append(out, planner.Pack(l, rules, now)...)
			m, _ := planner.Joined(l, 5)
			out = append(out, m.ID, m.Least, m.Most, m.First, m.Last, m.Rows, m.Bytes, m.Level)
		}
		return out
	}
	if !slices.Equal(tell(), tell()) {
		t.Error("the same was answered otherwise")
	}
}
