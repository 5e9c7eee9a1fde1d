package postings_test

import (
	"bytes"
	"math/rand/v2"
	"reflect"
	"slices"
	"testing"

	"icehouse/api"
	"icehouse/postings"
)

// P501

// roomy: a list with more behind it, which no call may change.
func roomy[T any](l []T, behind T) []T {
	return append(slices.Clone(l), behind, behind)[:len(l)]
}

// whole: a list with the two things that lie behind it.
func whole[T any](l []T) []T { return slices.Clone(l[:len(l)+2]) }

func TestP501NothingIsChanged(t *testing.T) {
	lists := append(anyLists(), beyond()[0], steps(0, 100, 3))
	for i, a := range lists {
		a, b := roomy(a, -77), roomy(lists[len(lists)-1-i], -77)
		beforeA, beforeB := whole(a), whole(b)
		postings.Right(a)
		postings.And(a, b)
		postings.Or(a, b)
		postings.Not(a, b)
		postings.Put(a)
		if !slices.Equal(beforeA, whole(a)) || !slices.Equal(beforeB, whole(b)) {
			t.Error("changed", a, b)
		}
	}
	for _, l := range rights() {
		b := roomy(written(l), 0xee)
		before := whole(b)
		postings.Get(b)
		postings.Get(b[:len(b)/2])
		if !bytes.Equal(before, whole(b)) {
			t.Error("changed", head(l))
		}
	}
	mark := api.Label{Name: "mark", Value: "mark"}
	for _, l := range append(noLabels(), of("a", "x"), of("a", "x", "b", "y")) {
		l := roomy(l, mark)
		before := whole(l)
		x := postings.New()
		x.Add(1, l)
		x.Add(-1, l)
		x.Remove(1)
		if !slices.Equal(before, whole(l)) {
			t.Error("changed", l)
		}
	}
}

// TestP501ListsAreNew: they share nothing with what was handed in, nor with another answer, not even the room behind them.
func TestP501ListsAreNew(t *testing.T) {
	b := written([]int{1, 4, 9})
	for name, answer := range map[string]func(a, b []int) []int{
		"And": postings.And, "Or": postings.Or, "Not": postings.Not,
		"Get": func([]int, []int) []int { l, _ := postings.Get(b); return l },
	} {
		for _, c := range [][2][]int{
			{{1, 4, 9}, {4, 9, 12}}, {{1, 4, 9}, nil}, {nil, {1, 4, 9}}, {{1, 4, 9}, {1, 4, 9}}, {{9, 4, 4, 1}, {}},
		} {
			one, two := roomy(c[0], -77), roomy(c[1], -77)
			wholeOne, wholeTwo := whole(one), whole(two)
			first, second, want := answer(one, two), answer(one, two), answer(c[0], c[1])
			clear(first[:cap(first)])
			wantList(t, name+" shares with another answer", second, want)
			wantList(t, name+" asked again", answer(one, two), want)
			if !slices.Equal(wholeOne, whole(one)) || !slices.Equal(wholeTwo, whole(two)) {
				t.Error(name, "shares with what is handed in")
			}
			clear(one)
			clear(two)
			wantList(t, name+" kept what was handed in", second, want)
		}
	}
	first, _ := postings.Put([]int{5, 6, 9})
	second, _ := postings.Put([]int{5, 6, 9})
	clear(first[:cap(first)])
	if !bytes.Equal(second, []byte{3, 5, 0, 2}) {
		t.Error("Put shares", second)
	}
	got, _ := postings.Get(b)
	clear(b)
	wantList(t, "Get kept its bytes", got, []int{1, 4, 9})
}

// TestP501TheIndexIsItsOwn: labels that were added, and answers, are not its memory.
func TestP501TheIndexIsItsOwn(t *testing.T) {
	x := postings.New()
	m := model{1: of("a", "x", "b", "y"), 2: of("a", "x"), 3: of("b", "z")}
	for _, id := range m.all() {
		l := roomy(m[id], api.Label{})
		wantE(t, "Add", x.Add(id, l), api.OK)
		clear(l[:cap(l)])
	}
	wantIndex(t, x, m)
	for range 2 {
		for _, id := range m.all() {
			l, _ := x.Labels(id)
			clear(l[:cap(l)])
		}
		for _, l := range [][]int{x.All(), x.Of("a", "x"), x.With("a"), x.With("b")} {
			clear(l[:cap(l)])
		}
		for _, l := range [][]string{x.Names(), x.Values("a"), x.Values("b")} {
			clear(l[:cap(l)])
		}
		wantIndex(t, x, m)
	}
	// What was answered stays, whatever is done then.
	labels, _ := x.Labels(1)
	all, names := x.All(), x.Names()
	wantE(t, "Remove", x.Remove(1), api.OK)
	wantE(t, "Remove", x.Remove(3), api.OK)
	wantE(t, "Add", x.Add(0, of("c", "c")), api.OK)
	wantList(t, "All", all, []int{1, 2, 3})
	wantTexts(t, "Names", names, []string{"a", "b"})
	if !slices.Equal(labels, m[1]) {
		t.Error(labels)
	}
}

// TestP501NilAndEmpty: they mean the same.
func TestP501NilAndEmpty(t *testing.T) {
	for _, none := range [][]int{nil, {}} {
		if !postings.Right(none) {
			t.Error("Right")
		}
		wantPut(t, none, []byte{0}, api.OK)
		wantList(t, "And", postings.And(none, []int{1}), nil)
		wantList(t, "Or", postings.Or(none, none), nil)
		wantList(t, "Not", postings.Not([]int{1}, none), []int{1})
	}
	for _, b := range [][]byte{nil, {}} {
		wantNone(t, "nothing", b)
	}
}

// TestP501TheSameAgain: what is asked twice is answered the same, and an index
// is as another one in which the same was done in another turn.
func TestP501TheSameAgain(t *testing.T) {
	r := rand.New(rand.NewPCG(5, 8))
	for range 100 {
		m := model{}
		for range r.IntN(30) {
			m[r.IntN(50)] = some(r)
		}
		ids := m.all()
		made := func() *postings.Index {
			x := postings.New()
			r.Shuffle(len(ids), func(i, j int) { ids[i], ids[j] = ids[j], ids[i] })
			for _, id := range ids {
				wantE(t, "Add", x.Add(id, m[id]), api.OK)
			}
			return x
		}
		x, y := made(), made()
		a, b := jumble(r, 10), jumble(r, 10)
		ask := func(x *postings.Index) []any {
			return []any{
				postings.And(a, b), postings.Or(a, b), postings.Not(a, b), postings.Right(a),
				x.All(), x.Of("a", "x"), x.With("b"), x.Names(), x.Values("a"),
			}
		}
		if !reflect.DeepEqual(ask(x), ask(x)) || !reflect.DeepEqual(ask(x), ask(y)) {
			t.Fatal(m)
		}
	}
}
