package planner_test

import (
	"math"
	"math/rand/v2"
	"slices"
	"testing"

	"icehouse/planner"
)

func wantIDs(t *testing.T, what string, got []int, want ...int) {
	t.Helper()
	if !slices.Equal(got, want) {
		t.Errorf("%s: %v, want %v", what, got, want)
	}
}

// P903

// TestP903Look: the times just touch.
func TestP903Look(t *testing.T) {
	one := []planner.Meta{meta(7, 10, 20)}
	point := []planner.Meta{meta(8, 15, 15)}
	for _, c := range []struct {
		from, to    int
		wide, point bool
	}{
		{0, 10, false, false}, {0, 11, true, false}, {9, 10, false, false}, {10, 11, true, false},
		{10, 10, false, false}, {20, 21, true, false}, {21, 22, false, false}, {21, 30, false, false},
		{20, 30, true, false}, {0, 100, true, true}, {12, 13, true, false}, {10, 21, true, true},
		{15, 16, true, true}, {14, 15, true, false}, {16, 17, true, false}, {0, 16, true, true},
		{0, 15, true, false}, {15, 100, true, true}, {16, 100, true, false},
		{0, 0, false, false}, {-5, 0, false, false}, {-5, -1, false, false}, {-5, 16, true, true},
		{math.MinInt, math.MaxInt, true, true}, {math.MinInt, 10, false, false}, {math.MinInt, 11, true, false},
		{math.MinInt, 15, true, false}, {math.MinInt, 16, true, true},
		{20, math.MaxInt, true, false}, {21, math.MaxInt, false, false}, {15, math.MaxInt, true, true},
		{math.MaxInt, math.MaxInt, false, false}, {math.MinInt, math.MinInt, false, false},
		{0, math.MinInt, false, false}, {math.MaxInt, 100, false, false},
		// Where to is not above from, both are held against the block as always.
		{15, 15, true, false}, {20, 11, true, false}, {20, 10, false, false}, {21, 11, false, false},
		{15, 16, true, true}, {16, 16, true, false}, {16, 15, true, false}, {18, 12, true, false},
		{math.MaxInt, math.MinInt, false, false}, {20, 20, true, false}, {11, 11, true, false},
	} {
		if got := planner.Look(one, c.from, c.to); len(got) > 0 != c.wide {
			t.Error("10 to 20, from", c.from, "to", c.to, got)
		}
		if got := planner.Look(point, c.from, c.to); len(got) > 0 != c.point {
			t.Error("15, from", c.from, "to", c.to, got)
		}
	}
}

// TestP903LookEdges: blocks of the least and of the greatest times.
func TestP903LookEdges(t *testing.T) {
	l := []planner.Meta{meta(1, 0, 0), meta(2, greatest, greatest), meta(3, 0, greatest)}
	for _, c := range []struct {
		from, to int
		want     []int
	}{
		{0, 1, []int{1, 3}}, {-1, 0, nil}, {0, 0, nil}, {1, 2, []int{3}}, {math.MinInt, 1, []int{1, 3}},
		{math.MinInt, 0, nil}, {greatest, greatest + 1, []int{2, 3}}, {greatest, greatest, []int{3}},
		{greatest, math.MaxInt, []int{2, 3}}, {greatest + 1, math.MaxInt, nil},
		{math.MinInt, math.MaxInt, []int{1, 2, 3}}, {1, greatest, []int{3}}, {0, greatest + 1, []int{1, 2, 3}},
	} {
		wantIDs(t, "Look", planner.Look(l, c.from, c.to), c.want...)
	}
}

// TestP903ListOrder: the IDs stand as the blocks do, whatever their numbers.
func TestP903ListOrder(t *testing.T) {
	l := []planner.Meta{meta(9, 5, 6), meta(2, 7, 8), meta(7, 1, 2), meta(1, 5, 9), meta(30, 0, 100)}
	wantIDs(t, "Look", planner.Look(l, 0, 200), 9, 2, 7, 1, 30)
	wantIDs(t, "Look", planner.Look(l, 6, 8), 9, 2, 1, 30)
	wantIDs(t, "Look", planner.Look(l, 2, 5), 7, 30)
	wantIDs(t, "Over", planner.Over(l, 1, 1000), 9, 2, 7, 1, 30)
	wantIDs(t, "Over", planner.Over(l, 10, 18), 9, 2, 7)
	wantIDs(t, "Over", planner.Over(l, 10, 16), 9, 7)
}

func TestP903Over(t *testing.T) {
	five := []planner.Meta{with(meta(3, 5, 5), 1, 1)}
	for _, c := range []struct {
		keep, now int
		want      bool
	}{
		{10, 15, true}, {10, 14, false}, {10, 16, true}, {11, 15, false}, {9, 15, true},
		{1, 6, true}, {1, 5, false}, {1, 4, false}, {2, 6, false}, {2, 7, true},
		{0, 15, false}, {0, 5, false}, {0, 0, false}, {-1, 15, false}, {-1, 5, false}, {-1, 4, false}, {-10, 0, false},
		{math.MinInt, 15, false}, {math.MinInt, math.MaxInt, false}, {math.MinInt, math.MinInt, false},
		{0, math.MaxInt, false}, {0, math.MinInt, false}, {-1, math.MaxInt, false}, {-1, math.MinInt, false},
		{10, math.MaxInt, true}, {10, math.MinInt, false}, {1, math.MinInt, false}, {1, math.MinInt + 4, false},
		{1, math.MinInt + 5, false}, {1, math.MinInt + 6, false}, {1, -1, false}, {1, 0, false}, {10, -15, false},
		{math.MaxInt, math.MaxInt, false}, {math.MaxInt - 5, math.MaxInt, true}, {math.MaxInt - 4, math.MaxInt, false},
		{math.MaxInt, math.MinInt, false}, {math.MaxInt, 0, false}, {math.MaxInt, -1, false}, {math.MaxInt, -2, false},
		{math.MaxInt, -7, false},
	} {
		if got := planner.Over(five, c.keep, c.now); len(got) > 0 != c.want {
			t.Error("keep", c.keep, "now", c.now, got)
		}
	}
}

func TestP903OverEdges(t *testing.T) {
	l := []planner.Meta{meta(1, 0, 0), meta(2, 0, greatest), meta(3, greatest, greatest)}
	for _, c := range []struct {
		keep, now int
		want      []int
	}{
		{1, 0, nil}, {1, 1, []int{1}}, {1, greatest, []int{1}}, {1, greatest + 1, []int{1, 2, 3}},
		{greatest, greatest, []int{1}}, {greatest, 2*greatest - 1, []int{1}}, {greatest, 2 * greatest, []int{1, 2, 3}},
		{math.MaxInt, math.MaxInt, []int{1}}, {math.MaxInt - greatest, math.MaxInt, []int{1, 2, 3}},
		{math.MaxInt - greatest + 1, math.MaxInt, []int{1}}, {math.MaxInt, math.MaxInt - 1, nil},
		{1, math.MinInt, nil}, {1, -1, nil}, {1, -greatest, nil}, {0, greatest + 1, nil},
	} {
		wantIDs(t, "Over", planner.Over(l, c.keep, c.now), c.want...)
	}
}

// TestP903Example: the chapter's.
func TestP903Example(t *testing.T) {
	wantIDs(t, "Over", planner.Over([]planner.Meta{meta(4, 1, 5)}, 10, 15), 4)
}

// P904

// sized: a block of that level and of so many bytes, of the time 0; its First is its ID.
func sized(id, level, size int) planner.Meta {
	m := meta(id, 0, 0)
	m.Level, m.Bytes = level, size
	return m
}

// levels: blocks of one byte each, with the IDs 1, 2 and so on, of these levels.
func levels(l ...int) []planner.Meta {
	out := []planner.Meta{}
	for i, n := range l {
		out = append(out, sized(1+i, n, 1))
	}
	return out
}

// sizes: blocks of level 0, with the IDs 1, 2 and so on, of so many bytes.
func sizes(l ...int) []planner.Meta {
	out := []planner.Meta{}
	for i, n := range l {
		out = append(out, sized(1+i, 0, n))
	}
	return out
}

// wide: rules by which all fits, and nothing is over at the time 0.
func wide(fan int) planner.Rules {
	return planner.Rules{Fan: fan, MaxBytes: math.MaxInt, Keep: math.MaxInt}
}

func TestP904Example(t *testing.T) {
	wantIDs(t, "Pack", planner.Pack(levels(0, 0, 0), wide(2), 0), 1, 2)
}

// upFrom: n numbers, from that one on.
func upFrom(first, n int) []int {
	l := []int{}
	for i := range n {
		l = append(l, first+i)
	}
	return l
}

func TestP904Fan(t *testing.T) {
	l := levels(make([]int, 40)...)
	for fan := 2; fan <= 16; fan++ {
		wantIDs(t, "of 40", planner.Pack(l, wide(fan), 0), upFrom(1, fan)...)
		wantIDs(t, "of just so many", planner.Pack(l[:fan], wide(fan), 0), upFrom(1, fan)...)
		wantIDs(t, "of one more", planner.Pack(l[:fan+1], wide(fan), 0), upFrom(1, fan)...)
		wantIDs(t, "of one less", planner.Pack(l[:fan-1], wide(fan), 0))
		wantIDs(t, "of one", planner.Pack(l[:1], wide(fan), 0))
	}
	for _, fan := range []int{1, 0, -1, -2, -16, 17, 18, 39, 40, 41, 1 << 40, math.MinInt, math.MinInt + 1, math.MaxInt} {
		wantIDs(t, "a Fan that may not be", planner.Pack(l, wide(fan), 0))
		wantIDs(t, "a Fan that may not be", planner.Pack(l[:1], wide(fan), 0))
		wantIDs(t, "a Fan that may not be", planner.Pack(nil, wide(fan), 0))
	}
}

func TestP904MaxBytes(t *testing.T) {
	for _, c := range []struct {
		what     string
		sizes    []int
		fan, max int
		want     []int
	}{
		{"none at 0, though nothing is in them", []int{0, 0}, 2, 0, nil},
		{"none below", []int{0, 0}, 2, -1, nil},
		{"none far below", []int{0, 0}, 2, math.MinInt, nil},
		{"1", []int{0, 0}, 2, 1, []int{1, 2}},
		{"1, in the first", []int{1, 0}, 2, 1, []int{1, 2}},
		{"1, in the second", []int{0, 1}, 2, 1, []int{1, 2}},
		{"2 above 1", []int{1, 1}, 2, 1, nil},
		{"just", []int{40, 60}, 2, 100, []int{1, 2}},
		{"one more", []int{41, 60}, 2, 100, nil},
		{"one more, at the end", []int{40, 61}, 2, 100, nil},
		{"one less", []int{40, 59}, 2, 100, []int{1, 2}},
		{"three, just", []int{40, 20, 40}, 3, 100, []int{1, 2, 3}},
		{"three, one more", []int{40, 20, 41}, 3, 100, nil},
		{"the second fits", []int{41, 60, 40}, 2, 100, []int{2, 3}},
		{"the third fits", []int{41, 60, 41, 59}, 2, 100, []int{3, 4}},
		{"a great one parts", []int{1, 101, 1, 1, 101, 1}, 2, 100, []int{3, 4}},
		{"a great one parts all", []int{1, 101, 1, 101, 1}, 2, 100, nil},
		{"the last run", []int{101, 101, 101, 1, 2, 97}, 3, 100, []int{4, 5, 6}},
		{"none is skipped to fit", []int{50, 51, 50}, 2, 100, nil},
		{"the first that fits, not the least", []int{50, 50, 1, 1}, 2, 100, []int{1, 2}},
		{"sixteen, just", []int{9, 9, 9, 9, 9, 9, 9, 9, 9, 9, 9, 9, 9, 9, 9, 9}, 16, 144, upFrom(1, 16)},
		{"sixteen, one more", []int{9, 9, 9, 9, 9, 9, 9, 9, 9, 9, 9, 9, 9, 9, 9, 9}, 16, 143, nil},
		{"the greatest", []int{greatest, greatest}, 2, 2 * greatest, []int{1, 2}},
		{"the greatest, one more", []int{greatest, greatest}, 2, 2*greatest - 1, nil},
		{"the greatest, any", []int{greatest, greatest}, 2, math.MaxInt, []int{1, 2}},
	} {
		r := planner.Rules{Fan: c.fan, MaxBytes: c.max, Keep: 1}
		wantIDs(t, c.what, planner.Pack(sizes(c.sizes...), r, 0), c.want...)
	}
}

func TestP904Keep(t *testing.T) {
	l := []planner.Meta{meta(1, 0, 10), meta(2, 0, 20), meta(3, 0, 15), meta(4, 0, 30), meta(5, 0, 12)}
	for _, c := range []struct {
		keep, now int
		want      []int
	}{
		{1, 0, []int{1, 2}}, {1, 10, []int{1, 2}}, {1, 11, []int{2, 3}}, {1, 15, []int{2, 3}},
		{1, 16, []int{2, 4}}, {1, 20, []int{2, 4}}, {1, 21, nil}, {1, 31, nil}, {1, 1000, nil}, {1, math.MaxInt, nil},
		{5, 14, []int{1, 2}}, {5, 15, []int{2, 3}}, {5, 20, []int{2, 4}}, {5, 25, nil},
		{1, math.MinInt, []int{1, 2}}, {1, -1, []int{1, 2}}, {math.MaxInt, math.MaxInt, []int{1, 2}},
		{math.MaxInt, math.MinInt, []int{1, 2}}, {math.MaxInt - 10, math.MaxInt, []int{2, 3}},
		{math.MaxInt - 10, math.MaxInt - 1, []int{1, 2}},
		{0, 0, nil}, {0, 1000, nil}, {0, math.MinInt, nil}, {-1, 0, nil}, {-1, 1000, nil},
		{math.MinInt, 0, nil}, {math.MinInt, math.MinInt, nil}, {math.MinInt, math.MaxInt, nil},
	} {
		r := planner.Rules{Fan: 2, MaxBytes: 100, Keep: c.keep}
		if got := planner.Pack(l, r, c.now); !slices.Equal(got, c.want) {
			t.Error("keep", c.keep, "now", c.now, got, "want", c.want)
		}
	}
}

// TestP904OverStandsAside: what is over parts no run, and its bytes and level don't count.
func TestP904OverStandsAside(t *testing.T) {
	l := []planner.Meta{sized(1, 0, 40), sized(2, 7, 1000), sized(3, 0, 60)}
	r := planner.Rules{Fan: 2, MaxBytes: 100, Keep: 10}
	for i := range l {
		l[i].Most = 50
	}
	wantIDs(t, "it parts them", planner.Pack(l, r, 20))
	l[1].Most = 10
	wantIDs(t, "it does not yet stand aside", planner.Pack(l, r, 19))
	wantIDs(t, "it stands aside", planner.Pack(l, r, 20), 1, 3)
}

func TestP904Levels(t *testing.T) {
	for _, c := range []struct {
		what   string
		levels []int
		fan    int
		want   []int
	}{
		{"two of none", []int{0, 1}, 2, nil},
		{"another level parts", []int{0, 1, 0}, 2, nil},
		{"a higher one at the end", []int{0, 0, 1}, 3, nil},
		{"a lower one ahead", []int{0, 1, 1}, 2, []int{2, 3}},
		{"the least level first", []int{1, 1, 0, 0}, 2, []int{3, 4}},
		{"the least level first, however far", []int{3, 3, 2, 2, 5, 5, 1, 1, 2, 2}, 2, []int{7, 8}},
		{"the first of the least level", []int{2, 1, 1, 2, 2, 1, 1, 1}, 2, []int{2, 3}},
		{"a lower level that has none", []int{4, 4, 0, 4, 4, 0, 3}, 2, []int{1, 2}},
		{"the first of three", []int{1, 1, 0, 1, 1, 1, 0}, 3, []int{4, 5, 6}},
		{"19", []int{19, 19}, 2, []int{1, 2}},
		{"20", []int{20, 20}, 2, nil},
		{"20, many", []int{20, 20, 20, 20, 20}, 3, nil},
		{"20 and 19", []int{20, 20, 19, 19}, 2, []int{3, 4}},
		{"20 parts", []int{19, 20, 19}, 2, nil},
		{"19 and 0", []int{19, 19, 0, 0}, 2, []int{3, 4}},
		{"19, 20", []int{19, 20}, 2, nil},
	} {
		wantIDs(t, c.what, planner.Pack(levels(c.levels...), wide(c.fan), 0), c.want...)
	}
	for level := range 20 {
		wantIDs(t, "each level", planner.Pack(levels(20, level, level, level), wide(2), 0), 2, 3)
	}
	// A run that does not fit is none, also of the least level.
	l := []planner.Meta{sized(1, 1, 1), sized(2, 1, 1), sized(3, 0, 99), sized(4, 0, 2)}
	wantIDs(t, "a higher one that fits", planner.Pack(l, planner.Rules{Fan: 2, MaxBytes: 100, Keep: 1}, 0), 1, 2)
}

// TestP904Order: by First, then by ID, wherever they stand in the list.
func TestP904Order(t *testing.T) {
	at := func(id, first int) planner.Meta {
		m := meta(id, 0, 0)
		m.First, m.Last = first, greatest
		return m
	}
	for _, c := range []struct {
		what string
		l    []planner.Meta
		fan  int
		want []int
	}{
		{"falling", []planner.Meta{at(1, 9), at(2, 8), at(3, 7)}, 2, []int{3, 2}},
		{"mixed", []planner.Meta{at(9, 5), at(4, 1), at(1, 9), at(2, 4)}, 3, []int{4, 2, 9}},
		{"equal First", []planner.Meta{at(7, 5), at(3, 5), at(5, 5)}, 2, []int{3, 5}},
		{"equal First, all", []planner.Meta{at(7, 5), at(3, 5), at(5, 5)}, 3, []int{3, 5, 7}},
		{"First ahead of ID", []planner.Meta{at(1, 6), at(7, 5), at(3, 5), at(9, 4)}, 3, []int{9, 3, 7}},
		{"the greatest", []planner.Meta{at(1, greatest), at(greatest, 1), at(2, greatest)}, 2, []int{greatest, 1}},
	} {
		wantIDs(t, c.what, planner.Pack(c.l, wide(c.fan), 0), c.want...)
	}
	// Only First and ID count: not Last, Least, Most, Rows or Bytes.
	a, b := at(1, 5), at(2, 6)
	a.Least, a.Most, a.Rows, a.Bytes = 100, 100, 100, 100
	wantIDs(t, "by First alone", planner.Pack([]planner.Meta{b, a}, wide(2), 0), 1, 2)
	b.First, b.Last = 5, 5
	wantIDs(t, "then by ID", planner.Pack([]planner.Meta{b, a}, wide(2), 0), 1, 2)
	// A block of another level stands between them by its First.
	l := []planner.Meta{at(1, 1), at(2, 3), with(at(3, 2), 7, 1)}
	wantIDs(t, "it parts them", planner.Pack(l, wide(2), 0))
	l[2].First = 4
	wantIDs(t, "it does not", planner.Pack(l, wide(2), 0), 1, 2)
}

// told: what the chapter says of Pack, for rules that may be: all runs are
// laid out, and the best one is kept.
func told(l []planner.Meta, r planner.Rules, now int) []int {
	kept := []planner.Meta{}
	for _, m := range l {
		if now-m.Most < r.Keep {
			kept = append(kept, m)
		}
	}
	slices.SortStableFunc(kept, func(a, b planner.Meta) int {
		if a.First != b.First {
			return a.First - b.First
		}
		return a.ID - b.ID
	})
	best, want := 20, []int(nil)
	for i := len(kept) - r.Fan; i >= 0; i-- {
		all, low, high, run := 0, kept[i].Level, kept[i].Level, []int{}
		for _, m := range kept[i : i+r.Fan] {
			all, low, high, run = all+m.Bytes, min(low, m.Level), max(high, m.Level), append(run, m.ID)
		}
		if all <= r.MaxBytes && low == high && low < 20 && low <= best {
			best, want = low, run
		}
	}
	return want
}

func TestP904Any(t *testing.T) {
	r := rand.New(rand.NewPCG(9, 3))
	found := map[int]int{}
	for range 30000 {
		l, rules, now := anyList(r), anyRules(r), r.IntN(100)
		got := planner.Pack(l, rules, now)
		if want := told(l, rules, now); !slices.Equal(got, want) {
			t.Fatal(l, rules, now, got, "want", want)
		}
		found[len(got)]++
	}
	if found[0] < 1000 || found[2] < 1000 || found[3] < 1000 || found[5] < 100 {
		t.Error("they were too much alike:", found)
	}
}

// anyList: a fine list of blocks of few times, numbers, sizes and levels.
func anyList(r *rand.Rand) []planner.Meta {
	l := []planner.Meta{}
	for _, id := range r.Perm(40)[:r.IntN(20)] {
		m := planner.Meta{ID: 1 + id, Least: r.IntN(80), First: 1 + r.IntN(30), Rows: 1 + r.IntN(50), Bytes: r.IntN(60)}
		m.Most, m.Last = m.Least+r.IntN(20), m.First+r.IntN(20)
		m.Level = []int{0, 0, 0, 0, 0, 1, 1, 2, 19, 20}[r.IntN(10)]
		l = append(l, m)
	}
	return l
}

// anyRules: ones that may be.
func anyRules(r *rand.Rand) planner.Rules {
	return planner.Rules{Fan: 2 + r.IntN(4), MaxBytes: 1 + r.IntN(250), Keep: 1 + r.IntN(100)}
}

// P905

func wantJoined(t *testing.T, what string, l []planner.Meta, id int, want planner.Meta) {
	t.Helper()
	if m, ok := planner.Joined(l, id); m != want || !ok {
		t.Errorf("%s: %v %v, want %v", what, m, ok, want)
	}
}

func wantNotJoined(t *testing.T, what string, l []planner.Meta, id int) {
	t.Helper()
	if m, ok := planner.Joined(l, id); m != (planner.Meta{}) || ok {
		t.Errorf("%s: %v %v", what, m, ok)
	}
}

func TestP905Joined(t *testing.T) {
	a := planner.Meta{ID: 5, Least: 100, Most: 300, First: 7, Last: 400, Rows: 20, Bytes: 1000, Level: 3}
	b := planner.Meta{ID: 9, Least: 50, Most: 60, First: 401, Last: 402, Rows: 2, Bytes: 0, Level: 0}
	c := planner.Meta{ID: 2, Least: 200, Most: 900, First: 3, Last: 5, Rows: 1, Bytes: 5, Level: 1}
	one := planner.Meta{ID: 8, Least: 100, Most: 300, First: 7, Last: 400, Rows: 20, Bytes: 1000, Level: 4}
	two := planner.Meta{ID: 8, Least: 50, Most: 300, First: 7, Last: 402, Rows: 22, Bytes: 1000, Level: 4}
	three := planner.Meta{ID: 8, Least: 50, Most: 900, First: 3, Last: 402, Rows: 23, Bytes: 1005, Level: 4}
	wantJoined(t, "one", []planner.Meta{a}, 8, one)
	wantJoined(t, "two", []planner.Meta{a, b}, 8, two)
	wantJoined(t, "two, turned", []planner.Meta{b, a}, 8, two)
	for _, l := range [][]planner.Meta{{a, b, c}, {a, c, b}, {b, a, c}, {b, c, a}, {c, a, b}, {c, b, a}} {
		wantJoined(t, "three", l, 8, three)
	}
	wantNotJoined(t, "nil", nil, 8)
	wantNotJoined(t, "none", []planner.Meta{}, 8)
}

// TestP905ID: any id that may be, also one that is in the list.
func TestP905ID(t *testing.T) {
	l := []planner.Meta{meta(5, 1, 2), meta(6, 1, 2)}
	want := planner.Meta{ID: 0, Least: 1, Most: 2, First: 5, Last: 6, Rows: 2, Bytes: 2, Level: 1}
	for _, id := range []int{1, 5, 6, 7, greatest - 1, greatest} {
		wantJoined(t, "an id", l, id, with(want, 0, id))
	}
	for _, id := range []int{0, -1, greatest + 1, greatest + 2, math.MinInt, math.MaxInt} {
		wantNotJoined(t, "no id", l, id)
		wantNotJoined(t, "no id", l[:1], id)
	}
}

// TestP905Bounds: where the sums, and the level, may not be.
func TestP905Bounds(t *testing.T) {
	const rows, size, level = 5, 6, 7
	a, b, c := meta(1, 1, 2), meta(2, 1, 2), meta(3, 1, 2)
	sums := planner.Meta{ID: 9, Least: 1, Most: 2, First: 1, Last: 2, Rows: 2, Bytes: 2, Level: 1}
	wantJoined(t, "Rows at the end", []planner.Meta{a, with(b, rows, greatest-1)}, 9, with(sums, rows, greatest))
	wantNotJoined(t, "Rows beyond it", []planner.Meta{a, with(b, rows, greatest)}, 9)
	wantNotJoined(t, "Rows beyond it, turned", []planner.Meta{with(b, rows, greatest), a}, 9)
	wantNotJoined(t, "Rows beyond it by the third", []planner.Meta{a, with(b, rows, greatest-1), c}, 9)
	wantJoined(t, "Bytes at the end", []planner.Meta{a, with(b, size, greatest-1)}, 9, with(sums, size, greatest))
	wantJoined(t, "Bytes, and none", []planner.Meta{with(a, size, 0), with(b, size, greatest)}, 9, with(sums, size, greatest))
	wantNotJoined(t, "Bytes beyond it", []planner.Meta{a, with(b, size, greatest)}, 9)
	wantNotJoined(t, "Bytes beyond it by the third", []planner.Meta{c, with(b, size, greatest-1), a}, 9)
	wantNotJoined(t, "both", []planner.Meta{most(), with(most(), 0, 3)}, 9)
	for n := range 20 {
		wantJoined(t, "a level", []planner.Meta{a, with(b, level, n)}, 9, with(sums, level, n+1))
		wantJoined(t, "a level, turned", []planner.Meta{with(b, level, n), a}, 9, with(sums, level, n+1))
	}
	wantNotJoined(t, "the greatest level", []planner.Meta{with(a, level, 20)}, 9)
	wantNotJoined(t, "the greatest level, of two", []planner.Meta{a, with(b, level, 20)}, 9)
	wantNotJoined(t, "the greatest level, turned", []planner.Meta{with(b, level, 20), a}, 9)
	one := with(with(most(), level, 19), 0, 9)
	wantJoined(t, "the greatest one", []planner.Meta{one}, greatest, most())
}

// TestP905LongLists: far more blocks than are ever packed.
func TestP905LongLists(t *testing.T) {
	l := []planner.Meta{}
	for i := range 1 << 16 {
		l = append(l, meta(1+i, i, i))
	}
	all := planner.Meta{ID: 1, Least: 0, Most: 1<<16 - 1, First: 1, Last: 1 << 16, Rows: 1 << 16, Bytes: 1 << 16, Level: 1}
	wantJoined(t, "small ones", l, 1, all)
	for i := range l {
		l[i].Rows = greatest
	}
	wantNotJoined(t, "Rows", l, 1)
	for i := range l {
		l[i].Rows, l[i].Bytes = 1, greatest
	}
	wantNotJoined(t, "Bytes", l, 1)
}
