package record_test

import (
	"math"
	"math/rand/v2"
	"reflect"
	"slices"
	"strconv"
	"testing"

	"icehouse/api"
	"icehouse/record"
)

// some: entries of few numbers, so that many share them; each tells by its line where it stood.
func some(r *rand.Rand, n int) []api.Entry {
	numbers := []int{math.MinInt, math.MinInt + 1, -1, 0, 1, 2, 300, api.MaxSeq, math.MaxInt - 1, math.MaxInt}
	l := []api.Entry{}
	for i := range n {
		l = append(l, entry(numbers[r.IntN(len(numbers))], numbers[r.IntN(len(numbers))], strconv.Itoa(i)))
	}
	return l
}

// ahead: what Before should say.
func ahead(a, b api.Entry) bool {
	if a.Time != b.Time {
		return a.Time < b.Time
	}
	return a.Seq < b.Seq
}

// sorted: l in the order, one entry after the other put behind all that it does not stand ahead of.
func sorted(l []api.Entry) []api.Entry {
	out := []api.Entry{}
	for _, x := range l {
		at := len(out)
		for at > 0 && ahead(x, out[at-1]) {
			at--
		}
		out = slices.Insert(out, at, x)
	}
	return out
}

func wantOrder(t *testing.T, got, want []api.Entry) {
	t.Helper()
	if !slices.EqualFunc(got, want, func(a, b api.Entry) bool { return reflect.DeepEqual(a, b) }) {
		t.Fatalf("%v\nwant %v", got, want)
	}
}

// P303

func TestP303Before(t *testing.T) {
	// Rising: each stands ahead of all behind it. Time counts ahead of Seq.
	rising := []api.Entry{
		entry(math.MaxInt, math.MinInt, ""),
		entry(5, -1, ""),
		entry(math.MinInt, 0, ""),
		entry(-1, 0, ""),
		entry(0, 0, ""),
		entry(1, 0, ""),
		entry(2, 0, ""),
		entry(math.MaxInt, 0, ""),
		entry(1, 1, ""),
		entry(3, 1, ""),
		entry(2, 2, ""),
		entry(1, 3, ""),
		entry(math.MinInt, math.MaxInt, ""),
		entry(math.MaxInt, math.MaxInt, ""),
	}
	for i, a := range rising {
		for j, b := range rising {
			if record.Before(a, b) != (i < j) {
				t.Errorf("%d@%d before %d@%d: %v", a.Seq, a.Time, b.Seq, b.Time, i >= j)
			}
		}
	}
}

func TestP303BeforeOfTheSame(t *testing.T) {
	// Labels and lines don't count.
	a := api.Entry{Seq: 4, Time: 5}
	b := labeled("z", "z")
	b.Seq, b.Time, b.Line = 4, 5, "line"
	for _, x := range []api.Entry{a, b} {
		for _, y := range []api.Entry{a, b} {
			if record.Before(x, y) {
				t.Errorf("%v before %v", x, y)
			}
		}
	}
	if record.Before(api.Entry{}, api.Entry{}) {
		t.Error("nothing before nothing")
	}
}

func TestP303Sort(t *testing.T) {
	got := record.Sort([]api.Entry{entry(9, 3, ""), entry(2, 7, ""), entry(3, 3, ""), entry(1, 7, "")})
	wantOrder(t, got, []api.Entry{entry(3, 3, ""), entry(9, 3, ""), entry(1, 7, ""), entry(2, 7, "")})
	for _, l := range [][]api.Entry{nil, {}} {
		if got := record.Sort(l); len(got) != 0 {
			t.Error(got)
		}
	}
	// Also what may not be an entry, and what is no batch.
	wantOrder(t, record.Sort([]api.Entry{entry(1, -4, "u"), {Seq: 9, Time: -5}, {}}), []api.Entry{{Seq: 9, Time: -5}, entry(1, -4, "u"), {}})
	r := rand.New(rand.NewPCG(3, 6))
	for n := range 200 {
		l := some(r, n)
		wantOrder(t, record.Sort(l), sorted(l))
	}
}

// TestP303AsTheyStood: many entries of the same numbers, more than a sort of short lists is handed.
func TestP303AsTheyStood(t *testing.T) {
	l := []api.Entry{}
	for i := range 5000 {
		l = append(l, api.Entry{Seq: i * 7 % 3, Time: i * 5 % 2, Line: strconv.Itoa(i)})
	}
	got := record.Sort(l)
	if len(got) != len(l) {
		t.Fatal(len(got))
	}
	for i := 1; i < len(got); i++ {
		a, b := got[i-1], got[i]
		first, _ := strconv.Atoi(a.Line)
		second, _ := strconv.Atoi(b.Line)
		if ahead(b, a) || !ahead(a, b) && first >= second {
			t.Fatal(i, a, b)
		}
	}
}

// P305

func TestP305Sorted(t *testing.T) {
	r := rand.New(rand.NewPCG(3, 7))
	for n := range 300 {
		l := some(r, n)
		got := record.Sort(l)
		if len(got) != len(l) {
			t.Fatal(len(got), "of", len(l))
		}
		there := map[string]int{}
		for i, x := range got {
			if i > 0 && record.Before(x, got[i-1]) {
				t.Fatal(i, got[i-1], x)
			}
			there[x.Line]++
			if at, _ := strconv.Atoi(x.Line); !reflect.DeepEqual(x, l[at]) {
				t.Fatal(x, "was", l[at])
			}
		}
		if len(there) != len(l) {
			t.Fatal("one is there twice")
		}
		wantOrder(t, record.Sort(got), got)
	}
}

// TestP305AnyTurn: entries with numbers of their own have one order, however they stood.
func TestP305AnyTurn(t *testing.T) {
	r := rand.New(rand.NewPCG(3, 8))
	for range 200 {
		l := run(1, 1+r.IntN(40))
		for i := range l {
			l[i].Time = r.IntN(4)
		}
		want := record.Sort(l)
		r.Shuffle(len(l), func(i, j int) { l[i], l[j] = l[j], l[i] })
		wantOrder(t, record.Sort(l), want)
	}
}
