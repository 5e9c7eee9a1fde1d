package merge_test

import (
	"math"
	"math/rand/v2"
	"reflect"
	"slices"
	"strconv"
	"testing"

	"icehouse/api"
	"icehouse/merge"
)

func entry(seq, time int, line string) api.Entry {
	return api.Entry{Seq: seq, Time: time, Labels: []api.Label{{Name: "a", Value: "x"}}, Line: line}
}

// row: entries of Seqs and Times, one behind the other.
func row(numbers ...int) []api.Entry {
	l := []api.Entry{}
	for i := 0; i < len(numbers); i += 2 {
		l = append(l, entry(numbers[i], numbers[i+1], ""))
	}
	return l
}

// ahead: what the order of entries says, asked of their numbers alone.
func ahead(a, b api.Entry) bool {
	if a.Time != b.Time {
		return a.Time < b.Time
	}
	return a.Seq < b.Seq
}

// first: whether a comes first of the two.
func first(a, b api.Entry, newest bool) bool { return ahead(a, b) && !newest || ahead(b, a) && newest }

// model: what Next should answer, and how many should be Skipped behind each
// answer and behind the last one: all rows are looked at for each entry.
func model(rows [][]api.Entry, newest bool) (answers []api.Entry, skipped []int) {
	rows = slices.Clone(rows)
	seen, left := map[int]int{}, 0
	for {
		best := -1
		for i, l := range rows {
			if len(l) > 0 && (best < 0 || first(l[0], rows[best][0], newest)) {
				best = i
			}
		}
		if best < 0 {
			return answers, append(skipped, left)
		}
		x := rows[best][0]
		rows[best] = rows[best][1:]
		if seen[x.Seq]++; seen[x.Seq] > 1 {
			left++
			continue
		}
		answers, skipped = append(answers, x), append(skipped, left)
	}
}

// same: an empty list is none.
func same(a, b []api.Entry) bool {
	return slices.EqualFunc(a, b, func(x, y api.Entry) bool {
		return x.Seq == y.Seq && x.Time == y.Time && x.Line == y.Line && slices.Equal(x.Labels, y.Labels)
	})
}

func wantEntries(t *testing.T, what string, got, want []api.Entry) {
	t.Helper()
	if !same(got, want) {
		t.Fatalf("%s: %v, want %v", what, brief(got), brief(want))
	}
}

func brief(l []api.Entry) string {
	s := ""
	for _, x := range l[:min(len(l), 50)] {
		s += " " + strconv.Itoa(x.Seq) + "@" + strconv.Itoa(x.Time) + strconv.Quote(x.Line)
	}
	return s
}

// wantNone: Next answers nothing, again and again, and no more are Skipped.
func wantNone(t *testing.T, it *merge.Iter, skipped int) {
	t.Helper()
	for range 3 {
		if x, ok := it.Next(); ok || !reflect.DeepEqual(x, api.Entry{}) {
			t.Fatalf("%v %v behind the last one", x, ok)
		}
		if n := it.Skipped(); n != skipped {
			t.Fatalf("%d skipped at the end, want %d", n, skipped)
		}
	}
}

// wantMerged: the answers one by one, how many are Skipped behind each, and behind the last one.
func wantMerged(t *testing.T, rows [][]api.Entry, newest bool, want []api.Entry, skipped []int) {
	t.Helper()
	it := merge.New(rows, newest)
	if n := it.Skipped(); n != 0 {
		t.Fatalf("%d skipped at the beginning", n)
	}
	for i, w := range want {
		x, ok := it.Next()
		if !ok || !same([]api.Entry{x}, []api.Entry{w}) {
			t.Fatalf("answer %d: %v %v, want %v", i, x, ok, w)
		}
		if n := it.Skipped(); n != skipped[i] {
			t.Fatalf("%d skipped behind answer %d, want %d", n, i, skipped[i])
		}
	}
	wantNone(t, it, skipped[len(want)])
}

// anyRow: entries of few numbers, so that many share them; each tells by its line where it stood.
func anyRow(r *rand.Rand, most int, name string) []api.Entry {
	numbers := []int{math.MinInt, math.MinInt + 1, -1, 0, 1, 2, 300, api.MaxSeq, math.MaxInt - 1, math.MaxInt}
	l := []api.Entry{}
	for i := range r.IntN(most + 1) {
		seq, time := numbers[r.IntN(len(numbers))], numbers[r.IntN(len(numbers))]
		if r.IntN(2) == 0 {
			seq, time = r.IntN(40), r.IntN(10)
		}
		l = append(l, entry(seq, time, name+strconv.Itoa(i)))
	}
	return l
}

func anyRows(r *rand.Rand) [][]api.Entry {
	rows := [][]api.Entry{}
	for i := range r.IntN(8) {
		rows = append(rows, anyRow(r, 12, string(rune('a'+i))))
	}
	return rows
}

// P702

func TestP702Next(t *testing.T) {
	for name, c := range map[string]struct {
		rows    [][]api.Entry
		newest  bool
		want    []api.Entry
		skipped []int
	}{
		"the example":            {[][]api.Entry{row(4, 1, 2, 3), row(4, 1, 9, 2)}, false, row(4, 1, 9, 2, 2, 3), []int{0, 1, 1, 1}},
		"no rows":                {nil, false, nil, []int{0}},
		"an empty list of rows":  {[][]api.Entry{}, true, nil, []int{0}},
		"an empty row":           {[][]api.Entry{{}}, false, nil, []int{0}},
		"empty rows":             {[][]api.Entry{nil, {}, nil}, true, nil, []int{0}},
		"one entry":              {[][]api.Entry{row(5, 6)}, false, row(5, 6), []int{0, 0}},
		"one row":                {[][]api.Entry{row(5, 1, 2, 3, 4, 3)}, false, row(5, 1, 2, 3, 4, 3), []int{0, 0, 0, 0}},
		"one row, newest":        {[][]api.Entry{row(4, 3, 2, 3, 5, 1)}, true, row(4, 3, 2, 3, 5, 1), []int{0, 0, 0, 0}},
		"a row between no ones":  {[][]api.Entry{nil, row(5, 1, 2, 3), {}}, false, row(5, 1, 2, 3), []int{0, 0, 0}},
		"one behind the other":   {[][]api.Entry{row(3, 7, 4, 8), row(1, 5, 2, 6)}, false, row(1, 5, 2, 6, 3, 7, 4, 8), []int{0, 0, 0, 0, 0}},
		"in turn":                {[][]api.Entry{row(1, 1, 4, 4), row(2, 2, 5, 5), row(3, 3, 6, 6)}, false, row(1, 1, 2, 2, 3, 3, 4, 4, 5, 5, 6, 6), []int{0, 0, 0, 0, 0, 0, 0}},
		"in turn, newest":        {[][]api.Entry{row(4, 4, 1, 1), row(5, 5, 2, 2), row(6, 6, 3, 3)}, true, row(6, 6, 5, 5, 4, 4, 3, 3, 2, 2, 1, 1), []int{0, 0, 0, 0, 0, 0, 0}},
		"by Time ahead of Seq":   {[][]api.Entry{row(9, 1), row(1, 9), row(5, 5)}, false, row(9, 1, 5, 5, 1, 9), []int{0, 0, 0, 0}},
		"by Seq in one Time":     {[][]api.Entry{row(9, 5), row(1, 5), row(5, 5)}, false, row(1, 5, 5, 5, 9, 5), []int{0, 0, 0, 0}},
		"by Seq, newest":         {[][]api.Entry{row(5, 5), row(1, 5), row(9, 5)}, true, row(9, 5, 5, 5, 1, 5), []int{0, 0, 0, 0}},
		"the same row thrice":    {[][]api.Entry{row(1, 1, 2, 2), row(1, 1, 2, 2), row(1, 1, 2, 2)}, false, row(1, 1, 2, 2), []int{0, 2, 4}},
		"the last is Skipped":    {[][]api.Entry{row(7, 7), row(7, 7)}, true, row(7, 7), []int{0, 1}},
		"twice in a row":         {[][]api.Entry{row(7, 7, 7, 7, 8, 7, 7, 7)}, false, row(7, 7, 8, 7), []int{0, 1, 2}},
		"one Seq of two Times":   {[][]api.Entry{row(5, 3), row(5, 1, 6, 2)}, false, row(5, 1, 6, 2), []int{0, 0, 1}},
		"the same, newest":       {[][]api.Entry{row(5, 3), row(6, 2, 5, 1)}, true, row(5, 3, 6, 2), []int{0, 0, 1}},
		"a Seq comes late again": {[][]api.Entry{row(1, 1, 2, 2, 3, 3, 4, 4, 1, 5)}, false, row(1, 1, 2, 2, 3, 3, 4, 4), []int{0, 0, 0, 0, 1}},
		// A row's entry is only looked at when it begins with it.
		"not ordered":         {[][]api.Entry{row(3, 5, 1, 1), row(2, 3)}, false, row(2, 3, 3, 5, 1, 1), []int{0, 0, 0, 0}},
		"not ordered, newest": {[][]api.Entry{row(3, 1, 1, 5), row(2, 3)}, true, row(2, 3, 3, 1, 1, 5), []int{0, 0, 0, 0}},
		"turned round":        {[][]api.Entry{row(3, 3, 2, 2, 1, 1)}, false, row(3, 3, 2, 2, 1, 1), []int{0, 0, 0, 0}},
	} {
		t.Run(name, func(t *testing.T) { wantMerged(t, c.rows, c.newest, c.want, c.skipped) })
	}
}

// TestP702EqualOnes: the first row's entry is meant, both ways, however many rows there are.
func TestP702EqualOnes(t *testing.T) {
	a, b, c := entry(4, 1, "a"), entry(4, 1, "b"), entry(4, 1, "c")
	other := entry(4, 1, "a")
	other.Labels = []api.Label{{Name: "z", Value: "z"}}
	for _, newest := range []bool{false, true} {
		for _, l := range [][]api.Entry{{a, b, c}, {c, b, a}, {b, c, a}, {other, a}, {a, other}, {api.Entry{Seq: 4, Time: 1}, a}} {
			rows := [][]api.Entry{nil}
			for _, x := range l {
				rows = append(rows, []api.Entry{x}, nil)
			}
			wantMerged(t, rows, newest, l[:1], []int{0, len(l) - 1})
		}
		for n := range 40 {
			rows := [][]api.Entry{}
			for i := range n + 1 {
				rows = append(rows, []api.Entry{entry(9, 9, strconv.Itoa(i))})
			}
			wantMerged(t, rows, newest, rows[0], []int{0, n})
		}
	}
	// Which row is the first one does not change when an entry is taken from it.
	wantMerged(t, [][]api.Entry{{entry(1, 1, "a"), entry(2, 2, "a")}, {entry(2, 2, "b")}}, false,
		[]api.Entry{entry(1, 1, "a"), entry(2, 2, "a")}, []int{0, 0, 1})
	wantMerged(t, [][]api.Entry{{entry(2, 2, "a")}, {entry(1, 1, "b"), entry(2, 2, "b")}}, false,
		[]api.Entry{entry(1, 1, "b"), entry(2, 2, "a")}, []int{0, 0, 1})
	// Of equal entries in a row that is not ordered the first row's bring to light what lies behind them.
	wantMerged(t, [][]api.Entry{{entry(5, 5, "a"), entry(1, 1, "a")}, {entry(5, 5, "b"), entry(1, 1, "b")}}, false,
		[]api.Entry{entry(5, 5, "a"), entry(1, 1, "a")}, []int{0, 0, 2})
}

// TestP702AnyRows: ordered or not, of numbers of all sizes.
func TestP702AnyRows(t *testing.T) {
	r := rand.New(rand.NewPCG(7, 1))
	left := 0
	for range 5000 {
		rows := anyRows(r)
		for _, newest := range []bool{false, true} {
			want, skipped := model(rows, newest)
			wantMerged(t, rows, newest, want, skipped)
			left += skipped[len(skipped)-1]
		}
	}
	if left < 5000 {
		t.Error("too few were skipped:", left)
	}
}

func TestP702ManyRows(t *testing.T) {
	r := rand.New(rand.NewPCG(7, 2))
	var rows [][]api.Entry
	for i := range 600 {
		rows = append(rows, anyRow(r, 3, strconv.Itoa(i)+" "))
	}
	for _, newest := range []bool{false, true} {
		want, skipped := model(rows, newest)
		wantMerged(t, rows, newest, want, skipped)
	}
	// Many entries, few rows.
	long := [][]api.Entry{nil, nil, nil}
	for seq := range 100000 {
		long[seq%3] = append(long[seq%3], entry(seq, seq/2, ""))
	}
	if l := merge.All(long, false, 0); len(l) != 100000 || !merge.Ordered(l, false) {
		t.Error(len(l))
	}
}

// P703

func TestP703All(t *testing.T) {
	rows := [][]api.Entry{row(4, 1, 2, 3), row(4, 1, 9, 2)}
	all := row(4, 1, 9, 2, 2, 3)
	for _, c := range []struct{ most, n int }{
		{0, 3}, {1, 1}, {2, 2}, {3, 3}, {4, 3}, {1000, 3}, {math.MaxInt, 3}, {-1, 0}, {-2, 0}, {-3, 0}, {math.MinInt, 0},
	} {
		wantEntries(t, "up to "+strconv.Itoa(c.most), merge.All(rows, false, c.most), all[:c.n])
		for _, none := range [][][]api.Entry{nil, {}, {nil}, {{}, nil}} {
			for _, newest := range []bool{false, true} {
				wantEntries(t, "of nothing", merge.All(none, newest, c.most), nil)
			}
		}
	}
	wantEntries(t, "newest", merge.All([][]api.Entry{row(2, 3, 4, 1), row(9, 2, 4, 1)}, true, 2), row(2, 3, 9, 2))
}

// TestP703AllOfAny: the first ones that Next answers.
func TestP703AllOfAny(t *testing.T) {
	r := rand.New(rand.NewPCG(7, 3))
	for range 2000 {
		rows, newest := anyRows(r), r.IntN(2) == 0
		want, _ := model(rows, newest)
		n := len(want)
		for _, most := range []int{1, 2, n - 1, n, n + 1, 1 + r.IntN(n+1), math.MaxInt} {
			if most > 0 {
				wantEntries(t, "up to "+strconv.Itoa(most), merge.All(rows, newest, most), want[:min(most, n)])
			}
		}
		wantEntries(t, "all", merge.All(rows, newest, 0), want)
		wantEntries(t, "none", merge.All(rows, newest, -1-r.IntN(n+1)), nil)
	}
}

func TestP703Ordered(t *testing.T) {
	const up, down, both, neither = 1, 2, 3, 0
	for _, c := range []struct {
		l    []api.Entry
		want int
	}{
		{nil, both}, {[]api.Entry{}, both}, {row(1, 1), both}, {row(-5, math.MinInt), both},
		{row(1, 1, 1, 1), both}, {row(1, 1, 1, 1, 1, 1), both}, {[]api.Entry{entry(1, 1, "b"), entry(1, 1, "a")}, both},
		{row(1, 1, 2, 1), up}, {row(2, 1, 1, 1), down}, {row(1, 1, 1, 2), up}, {row(1, 2, 1, 1), down},
		{row(9, 1, 1, 2), up}, {row(1, 2, 9, 1), down}, {row(9, 1, 1, 2, 1, 2, 2, 2, 1, 3), up}, {row(1, 3, 2, 2, 1, 2, 1, 2, 9, 1), down},
		{row(1, 1, 2, 2, 1, 1), neither}, {row(2, 2, 1, 1, 2, 2), neither}, {row(1, 1, 1, 1, 2, 1, 1, 1), neither},
		{row(2, 1, 1, 1, 3, 3, 4, 4), neither}, {row(1, 1, 2, 2, 4, 4, 3, 3), neither},
		{row(0, math.MinInt, 0, -1, 0, 0, 0, math.MaxInt), up}, {row(math.MaxInt, 0, 0, 0, -1, 0, math.MinInt, 0), down},
		{row(math.MaxInt, math.MinInt, math.MinInt, math.MaxInt), up},
	} {
		if got := merge.Ordered(c.l, false); got != (c.want&up != 0) {
			t.Error("the oldest first:", brief(c.l), got)
		}
		if got := merge.Ordered(c.l, true); got != (c.want&down != 0) {
			t.Error("the newest first:", brief(c.l), got)
		}
	}
	r := rand.New(rand.NewPCG(7, 4))
	for range 20000 {
		l := anyRow(r, 4, "")
		for _, newest := range []bool{false, true} {
			want := true
			for i := 1; i < len(l); i++ {
				want = want && !first(l[i], l[i-1], newest)
			}
			if merge.Ordered(l, newest) != want {
				t.Fatal(brief(l), newest)
			}
		}
	}
}

func TestP703Turn(t *testing.T) {
	for _, c := range []struct{ l, want []api.Entry }{
		{nil, nil}, {[]api.Entry{}, nil}, {row(1, 2), row(1, 2)}, {row(1, 2, 3, 4), row(3, 4, 1, 2)},
		{row(1, 2, 3, 4, 5, 6), row(5, 6, 3, 4, 1, 2)}, {row(9, 9, 1, 1, 5, 5, 5, 5), row(5, 5, 5, 5, 1, 1, 9, 9)},
		{[]api.Entry{entry(1, 1, "a"), entry(1, 1, "b"), {}}, []api.Entry{{}, entry(1, 1, "b"), entry(1, 1, "a")}},
	} {
		before := slices.Clone(c.l)
		wantEntries(t, "Turn", merge.Turn(c.l), c.want)
		wantEntries(t, "what was handed in", c.l, before)
	}
	r := rand.New(rand.NewPCG(7, 5))
	for range 500 {
		l := anyRow(r, 30, "")
		got := merge.Turn(l)
		if len(got) != len(l) {
			t.Fatal(len(got), "of", len(l))
		}
		for i := range l {
			wantEntries(t, "at its place", got[i:i+1], l[len(l)-1-i:len(l)-i])
		}
		wantEntries(t, "turned twice", merge.Turn(got), l)
	}
}
