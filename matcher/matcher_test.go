package matcher_test

import (
	"math"
	"math/rand/v2"
	"slices"
	"strconv"
	"strings"
	"testing"

	"icehouse/api"
	"icehouse/label"
	"icehouse/matcher"
	"icehouse/postings"
)

// of: labels from names and values, one behind the other.
func of(words ...string) []api.Label {
	l := []api.Label{}
	for i := 0; i < len(words); i += 2 {
		l = append(l, api.Label{Name: words[i], Value: words[i+1]})
	}
	return l
}

func match(name string, op int, value string) matcher.Match {
	return matcher.Match{Name: name, Op: op, Value: value}
}

// ops: those that there are.
func ops() []int { return []int{matcher.Is, matcher.Not, matcher.Like, matcher.Unlike} }

// noOps: those that there are not.
func noOps() []int { return []int{0, 5, -1, -2, 6, 100, math.MinInt, math.MaxInt} }

// badTexts: each is no good UTF-8, for another reason.
func badTexts() []string {
	return []string{
		"\x80", "\xff", "a\xc3", "\xc3a", "\xe2\x82", "\xf0\x9f\x98", "\xc0\x80", "\xe0\x9f\xbf", "\xf0\x8f\xbf\xbf",
		"\xed\xa0\x80", "\xed\xbf\xbf", "\xf4\x90\x80\x80", "\xf8\x88\x80\x80\x80",
	}
}

func TestOpsAreNumbers(t *testing.T) {
	if !slices.Equal(ops(), []int{1, 2, 3, 4}) {
		t.Error(ops())
	}
}

// P602

func TestP602Fits(t *testing.T) {
	labels := of("a", "x", "b", "xyz", "c", "*", "d", "")
	for _, c := range []struct {
		m    matcher.Match
		want bool
	}{
		{match("a", matcher.Is, "x"), true},
		{match("a", matcher.Is, "y"), false},
		{match("a", matcher.Is, "X"), false},
		{match("a", matcher.Is, ""), false},
		{match("a", matcher.Is, "x "), false},
		{match("a", matcher.Is, "*"), false},
		{match("c", matcher.Is, "*"), true},
		{match("b", matcher.Is, "xy"), false},
		{match("A", matcher.Is, "x"), false},
		{match("a", matcher.Not, "x"), false},
		{match("a", matcher.Not, "y"), true},
		{match("a", matcher.Not, ""), true},
		{match("a", matcher.Not, "*"), true},
		{match("c", matcher.Not, "*"), false},
		{match("b", matcher.Like, "x*"), true},
		{match("b", matcher.Like, "?y?"), true},
		{match("b", matcher.Like, "a|xyz"), true},
		{match("b", matcher.Like, "x"), false},
		{match("b", matcher.Like, "y*"), false},
		{match("b", matcher.Like, ""), false},
		{match("a", matcher.Like, `\x`), true},
		{match("c", matcher.Like, `\*`), true},
		{match("b", matcher.Like, `\*`), false},
		{match("b", matcher.Unlike, "x*"), false},
		{match("b", matcher.Unlike, "?y?"), false},
		{match("b", matcher.Unlike, "a|xyz"), false},
		{match("b", matcher.Unlike, "x"), true},
		{match("b", matcher.Unlike, "y*"), true},
		{match("b", matcher.Unlike, ""), true},
		{match("d", matcher.Is, ""), true},
		{match("d", matcher.Not, ""), false},
		// Without a label of that name it is "".
		{match("none", matcher.Is, ""), true},
		{match("none", matcher.Is, "x"), false},
		{match("none", matcher.Not, ""), false},
		{match("none", matcher.Not, "x"), true},
		{match("none", matcher.Like, ""), true},
		{match("none", matcher.Like, "*"), true},
		{match("none", matcher.Like, "x|"), true},
		{match("none", matcher.Like, "?"), false},
		{match("none", matcher.Unlike, ""), false},
		{match("none", matcher.Unlike, "*"), false},
		{match("none", matcher.Unlike, "?*"), true},
		// Names and values that may not be.
		{match("", matcher.Is, ""), true},
		{match("", matcher.Is, "x"), false},
		{match("\xff", matcher.Unlike, "\xff"), true},
		{match("a", matcher.Is, "\xff"), false},
	} {
		if matcher.Fits([]matcher.Match{c.m}, labels) != c.want {
			t.Errorf("%+v: %v is wanted", c.m, c.want)
		}
	}
}

func TestP602FitsNoOp(t *testing.T) {
	for _, op := range noOps() {
		for _, m := range []matcher.Match{match("a", op, "x"), match("a", op, "y"), match("a", op, "*"), match("none", op, ""), match("", op, "")} {
			if matcher.Fits([]matcher.Match{m}, of("a", "x")) {
				t.Errorf("%+v fits", m)
			}
			if matcher.Fits([]matcher.Match{match("a", matcher.Is, "x"), m}, of("a", "x")) {
				t.Errorf("%+v fits behind another one", m)
			}
		}
	}
}

// TestP602FitsEach: each of them must fit, and all do of none.
func TestP602FitsEach(t *testing.T) {
	x, y := match("a", matcher.Is, "x"), match("a", matcher.Is, "y")
	b := match("b", matcher.Like, "?")
	for _, c := range []struct {
		l    []matcher.Match
		want bool
	}{
		{nil, true}, {[]matcher.Match{}, true},
		{[]matcher.Match{x}, true}, {[]matcher.Match{x, x}, true}, {[]matcher.Match{x, b}, true}, {[]matcher.Match{b, x}, true},
		{[]matcher.Match{y}, false}, {[]matcher.Match{x, y}, false}, {[]matcher.Match{y, x}, false}, {[]matcher.Match{x, b, y}, false},
		{slices.Repeat([]matcher.Match{x}, 1000), true},
		{append(slices.Repeat([]matcher.Match{x}, 1000), y), false},
	} {
		if matcher.Fits(c.l, of("a", "x", "b", "y")) != c.want {
			t.Errorf("%+v: %v is wanted", c.l, c.want)
		}
	}
	for _, none := range [][]api.Label{nil, {}} {
		if !matcher.Fits(nil, none) || matcher.Fits([]matcher.Match{x}, none) || !matcher.Fits([]matcher.Match{match("a", matcher.Is, "")}, none) {
			t.Error("of no labels")
		}
	}
	// Labels that may not be: the first one of the name counts; bytes, not runes, are compared.
	twice := of("b", "1", "a", "x", "a", "y", "", "\xff")
	if !matcher.Fits([]matcher.Match{x}, twice) || matcher.Fits([]matcher.Match{y}, twice) {
		t.Error("of a name twice")
	}
	if !matcher.Fits([]matcher.Match{match("", matcher.Is, "\xff"), match("", matcher.Not, "\xfe"), match("", matcher.Like, "\xfe")}, twice) {
		t.Error("of a value that is no good UTF-8")
	}
}

// P603

// edges: queries that may be, each at an edge.
func edges() []matcher.Query {
	full := matcher.Query{Has: strings.Repeat("h", api.MaxLine), From: api.MaxTime, To: api.MaxTime, Limit: 10000, Newest: true}
	for i := range 8 {
		full.Matches = append(full.Matches, match(strings.Repeat("n", api.MaxName), 1+i%4, strings.Repeat("v", api.MaxValue)))
	}
	var each []matcher.Match
	for _, op := range ops() {
		each = append(each, match("a", op, "x"))
	}
	return []matcher.Query{
		{}, {Matches: []matcher.Match{}}, full, {Matches: each}, {Matches: slices.Concat(each, each), To: 1},
		{To: api.MaxTime}, {From: 1, To: 1}, {From: 1, To: 2}, {From: api.MaxTime - 1, To: api.MaxTime}, {From: api.MaxTime, To: api.MaxTime},
		{Limit: 1}, {Limit: 9999}, {Limit: 10000}, {Newest: true}, {Has: "x", To: api.MaxTime - 1},
		{Matches: []matcher.Match{match("_", matcher.Is, "")}},
		{Matches: []matcher.Match{match("a9", matcher.Like, strings.Repeat("\u00e9", api.MaxValue/2))}},
		{Matches: []matcher.Match{match("a", matcher.Unlike, strings.Repeat("\x00", api.MaxValue))}},
		{Matches: []matcher.Match{match("a", matcher.Is, "\" \\\n\t\x7f{},=!~")}},
		{Has: strings.Repeat("\u20ac", api.MaxLine/3)}, {Has: strings.Repeat("\x1f", api.MaxLine)}, {Has: "\" \\\n\t\x7f{} limit 5 newest"},
		{Has: "\ufffd\U0010ffff"},
	}
}

// wrongs: queries that may not be, each for one reason.
func wrongs() []matcher.Query {
	var l []matcher.Query
	with := func(m ...matcher.Match) { l = append(l, matcher.Query{Matches: m, To: 9}) }
	good := match("a", matcher.Is, "x")
	for _, name := range []string{"", "0", "9a", "a-b", "a b", " a", "a ", "\u00e9", "a\xff", "a\x00", "a=", strings.Repeat("n", api.MaxName+1)} {
		with(match(name, matcher.Is, "x"))
		with(good, good, match(name, matcher.Unlike, "x"))
	}
	for _, op := range noOps() {
		with(match("a", op, "x"))
		with(good, match("a", op, "x"), good)
	}
	with(match("a", matcher.Is, strings.Repeat("v", api.MaxValue+1)))
	with(match("a", matcher.Like, strings.Repeat("\u00e9", api.MaxValue/2)+"x"))
	for _, s := range badTexts() {
		with(good, match("a", matcher.Is, s))
		with(match("a", matcher.Like, "good "+s+" good"))
		l = append(l, matcher.Query{Has: s}, matcher.Query{Has: "good " + s + " good"})
	}
	with(slices.Repeat([]matcher.Match{good}, 9)...)
	with(slices.Repeat([]matcher.Match{good}, 1000)...)
	return append(l,
		matcher.Query{Has: strings.Repeat("h", api.MaxLine+1)},
		matcher.Query{Has: strings.Repeat("\u20ac", 342)},
		matcher.Query{From: -1}, matcher.Query{From: -1, To: 5}, matcher.Query{From: math.MinInt, To: 5}, matcher.Query{From: math.MinInt, To: math.MaxInt},
		matcher.Query{To: -1}, matcher.Query{From: -2, To: -1}, matcher.Query{To: math.MinInt},
		matcher.Query{From: 1}, matcher.Query{From: 6, To: 5}, matcher.Query{From: api.MaxTime, To: api.MaxTime - 1}, matcher.Query{From: math.MaxInt, To: 5},
		matcher.Query{To: api.MaxTime + 1}, matcher.Query{From: api.MaxTime + 1, To: api.MaxTime + 1}, matcher.Query{To: math.MaxInt},
		matcher.Query{Limit: -1}, matcher.Query{Limit: 10001}, matcher.Query{Limit: math.MinInt}, matcher.Query{Limit: math.MaxInt},
	)
}

func TestP603Right(t *testing.T) {
	for _, q := range edges() {
		if !matcher.Right(q) {
			t.Errorf("%+v may be", q)
		}
	}
	for _, q := range wrongs() {
		if matcher.Right(q) {
			t.Errorf("%+v may not be", q)
		}
	}
}

// P604

func TestP604Takes(t *testing.T) {
	x := api.Entry{Seq: 7, Time: 5, Labels: of("a", "x", "b", "y"), Line: "one line of them"}
	all := matcher.Query{To: api.MaxTime}
	for _, c := range []struct {
		q    matcher.Query
		want bool
	}{
		{all, true},
		{matcher.Query{From: 5, To: 6}, true}, {matcher.Query{From: 0, To: 6}, true}, {matcher.Query{From: 5, To: api.MaxTime}, true},
		{matcher.Query{From: 6, To: 7}, false}, {matcher.Query{From: 4, To: 5}, false}, {matcher.Query{From: 5, To: 5}, false}, {matcher.Query{From: 6, To: 6}, false}, {matcher.Query{}, false},
		{matcher.Query{To: 9, Matches: []matcher.Match{match("a", matcher.Is, "x")}}, true},
		{matcher.Query{To: 9, Matches: []matcher.Match{match("a", matcher.Is, "x"), match("c", matcher.Not, "z")}}, true},
		{matcher.Query{To: 9, Matches: []matcher.Match{match("a", matcher.Is, "x"), match("b", matcher.Unlike, "?")}}, false},
		{matcher.Query{To: 9, Has: "line"}, true}, {matcher.Query{To: 9, Has: x.Line}, true}, {matcher.Query{To: 9, Has: "one"}, true}, {matcher.Query{To: 9, Has: "them"}, true},
		{matcher.Query{To: 9, Has: "Line"}, false}, {matcher.Query{To: 9, Has: "line  of"}, false}, {matcher.Query{To: 9, Has: x.Line + "x"}, false}, {matcher.Query{To: 9, Has: "*"}, false},
		// What is cut off, and the order, is not asked here.
		{matcher.Query{To: 9, Limit: 1, Newest: true}, true},
	} {
		if matcher.Takes(c.q, x) != c.want {
			t.Errorf("%+v: %v is wanted", c.q, c.want)
		}
	}
}

func TestP604TakesTimes(t *testing.T) {
	for _, c := range []struct {
		from, to, time int
		want           bool
	}{
		{0, 1, 0, true}, {0, 1, 1, false}, {0, 1, -1, false}, {0, 0, 0, false},
		{0, api.MaxTime, 0, true}, {0, api.MaxTime, api.MaxTime - 1, true}, {0, api.MaxTime, api.MaxTime, false}, {0, api.MaxTime, math.MaxInt, false}, {0, api.MaxTime, math.MinInt, false},
		{api.MaxTime - 1, api.MaxTime, api.MaxTime - 1, true}, {api.MaxTime - 1, api.MaxTime, api.MaxTime - 2, false},
		{api.MaxTime, api.MaxTime, api.MaxTime, false}, {api.MaxTime, api.MaxTime, api.MaxTime - 1, false},
		{10, 20, 9, false}, {10, 20, 10, true}, {10, 20, 19, true}, {10, 20, 20, false}, {10, 20, 21, false},
	} {
		x := api.Entry{Seq: 1, Time: c.time, Labels: of("a", "x")}
		if matcher.Takes(matcher.Query{From: c.from, To: c.to}, x) != c.want {
			t.Errorf("%v: not as is wanted", c)
		}
	}
}

// TestP604TakesNothing: a query that may not be takes nothing, whatever would fit.
func TestP604TakesNothing(t *testing.T) {
	for _, q := range wrongs() {
		labels := of("a", "x")
		for _, m := range q.Matches {
			labels = append(labels, api.Label{Name: m.Name, Value: m.Value})
		}
		for _, time := range []int{0, 5, q.From, q.To - 1} {
			if matcher.Takes(q, api.Entry{Seq: 1, Time: time, Labels: labels, Line: q.Has}) {
				t.Errorf("%+v takes an entry", q)
			}
		}
	}
}

// TestP604TakesAnyEntry: an entry that may not be is looked at like others.
func TestP604TakesAnyEntry(t *testing.T) {
	q := matcher.Query{To: api.MaxTime, Has: "x"}
	for _, x := range []api.Entry{{Line: "x"}, {Seq: -5, Line: "\xffx\xff"}, {Seq: math.MaxInt, Line: strings.Repeat("x", 1<<20)}} {
		if !matcher.Takes(q, x) {
			t.Error("not taken", x.Seq)
		}
		if matcher.Takes(matcher.Query{To: 9, Has: "y"}, x) || matcher.Takes(matcher.Query{To: 9, Matches: []matcher.Match{match("a", matcher.Is, "x")}}, x) {
			t.Error("taken", x.Seq)
		}
	}
}

func wantList(t *testing.T, what string, got, want []int) {
	t.Helper()
	if !slices.Equal(got, want) {
		t.Errorf("%s: %v, want %v", what, got[:min(len(got), 20)], want[:min(len(want), 20)])
	}
}

// few: an index of some numbers.
func few(t *testing.T) *postings.Index {
	t.Helper()
	x := postings.New()
	for id, l := range map[int][]api.Label{
		9: of("a", "x"), 3: of("a", "y"), 1 << 39: of("a", "x", "b", "x"), 0: of("b", "y"), 5: of("a", "xy", "b", "y", "c", "\u00e9"),
	} {
		if e := x.Add(id, l); e != api.OK {
			t.Fatal(id, e)
		}
	}
	return x
}

func TestP604Select(t *testing.T) {
	x := few(t)
	const far = 1 << 39
	for _, c := range []struct {
		l    []matcher.Match
		want []int
	}{
		{nil, []int{0, 3, 5, 9, far}},
		{[]matcher.Match{}, []int{0, 3, 5, 9, far}},
		{[]matcher.Match{match("a", matcher.Is, "x")}, []int{9, far}},
		{[]matcher.Match{match("a", matcher.Is, "z")}, nil},
		{[]matcher.Match{match("a", matcher.Is, "")}, []int{0}},
		{[]matcher.Match{match("a", matcher.Not, "x")}, []int{0, 3, 5}},
		{[]matcher.Match{match("a", matcher.Not, "")}, []int{3, 5, 9, far}},
		{[]matcher.Match{match("a", matcher.Like, "x*")}, []int{5, 9, far}},
		{[]matcher.Match{match("a", matcher.Like, "*")}, []int{0, 3, 5, 9, far}},
		{[]matcher.Match{match("a", matcher.Like, "?*")}, []int{3, 5, 9, far}},
		{[]matcher.Match{match("a", matcher.Like, "y|")}, []int{0, 3}},
		{[]matcher.Match{match("a", matcher.Unlike, "x*")}, []int{0, 3}},
		{[]matcher.Match{match("a", matcher.Unlike, "*")}, nil},
		{[]matcher.Match{match("c", matcher.Like, "?")}, []int{5}},
		{[]matcher.Match{match("c", matcher.Unlike, "?")}, []int{0, 3, 9, far}},
		{[]matcher.Match{match("none", matcher.Is, "")}, []int{0, 3, 5, 9, far}},
		{[]matcher.Match{match("none", matcher.Not, "x")}, []int{0, 3, 5, 9, far}},
		{[]matcher.Match{match("none", matcher.Is, "x")}, nil},
		{[]matcher.Match{match("", matcher.Unlike, "x")}, []int{0, 3, 5, 9, far}},
		{[]matcher.Match{match("a", matcher.Is, "x"), match("b", matcher.Is, "x")}, []int{far}},
		{[]matcher.Match{match("a", matcher.Is, "x"), match("b", matcher.Is, "")}, []int{9}},
		{[]matcher.Match{match("b", matcher.Is, "y"), match("a", matcher.Not, "xy")}, []int{0}},
		{[]matcher.Match{match("a", matcher.Is, "x"), match("a", matcher.Is, "y")}, nil},
		// More of them than a query has.
		{slices.Repeat([]matcher.Match{match("a", matcher.Is, "x")}, 20), []int{9, far}},
	} {
		wantList(t, strconv.Quote(matcher.Print(matcher.Query{Matches: c.l})), matcher.Select(x, c.l), c.want)
	}
	for _, op := range noOps() {
		for _, name := range []string{"a", "none", ""} {
			wantList(t, "no op", matcher.Select(x, []matcher.Match{match(name, op, "x")}), nil)
			wantList(t, "no op", matcher.Select(x, []matcher.Match{match("a", matcher.Is, "x"), match(name, op, "")}), nil)
		}
	}
}

// TestP604SelectNothing: of an index without numbers, one that nobody made, and none.
func TestP604SelectNothing(t *testing.T) {
	emptied := few(t)
	for _, id := range emptied.All() {
		emptied.Remove(id)
	}
	for _, x := range []*postings.Index{nil, {}, new(postings.Index), postings.New(), emptied} {
		wantList(t, "nothing", matcher.Select(x, nil), nil)
		for _, op := range append(noOps(), ops()...) {
			for _, value := range []string{"", "x", "*"} {
				wantList(t, "nothing", matcher.Select(x, []matcher.Match{match("a", op, value)}), nil)
			}
		}
	}
}

// anyIndex: an index of numbers with labels of few names and values.
func anyIndex(t *testing.T, r *rand.Rand) *postings.Index {
	t.Helper()
	x := postings.New()
	for range r.IntN(20) {
		var words []string
		for _, name := range []string{"a", "b", "c"} {
			if r.IntN(3) > 0 || len(words) == 0 && name == "c" {
				words = append(words, name, []string{"x", "y", "xy", "\u00e9", "*"}[r.IntN(5)])
			}
		}
		if e := x.Add(r.IntN(60), of(words...)); e != api.OK && e != api.ErrThere {
			t.Fatal(words, e)
		}
	}
	return x
}

// anyMatches: few of few names and values, some of an Op that there is not.
func anyMatches(r *rand.Rand) []matcher.Match {
	var l []matcher.Match
	for range r.IntN(4) {
		op := 1 + r.IntN(4)
		if r.IntN(20) == 0 {
			op = noOps()[r.IntN(len(noOps()))]
		}
		value := []string{"", "x", "y", "xy", "\u00e9", "*", "?", "x*", "x|y", "|\u00e9", `\*`, "?*"}[r.IntN(12)]
		l = append(l, match([]string{"a", "b", "c", "d"}[r.IntN(4)], op, value))
	}
	return l
}

// wanted: the numbers whose labels fit, told number by number.
func wanted(x *postings.Index, l []matcher.Match) []int {
	var out []int
	for _, id := range x.All() {
		labels, _ := x.Labels(id)
		fits := true
		for _, m := range l {
			v, _ := label.Get(labels, m.Name)
			fits = fits && map[int]bool{
				matcher.Is: v == m.Value, matcher.Not: v != m.Value, matcher.Like: byPattern(m.Value, v), matcher.Unlike: !byPattern(m.Value, v),
			}[m.Op]
		}
		if fits {
			out = append(out, id)
		}
	}
	return out
}

func TestP604SelectAny(t *testing.T) {
	r := rand.New(rand.NewPCG(6, 2))
	found := 0
	for range 2000 {
		x, l := anyIndex(t, r), anyMatches(r)
		want := wanted(x, l)
		found += len(want)
		wantList(t, "Select", matcher.Select(x, l), want)
		for _, id := range x.All() {
			labels, _ := x.Labels(id)
			if matcher.Fits(l, labels) != slices.Contains(want, id) {
				t.Fatalf("%+v of %q", l, labels)
			}
		}
	}
	if found < 2000 {
		t.Error("too few fit:", found)
	}
}

// TestP604SelectMany: an index as full as may be, each number with a value of its own.
func TestP604SelectMany(t *testing.T) {
	x := postings.New()
	for id := range api.MaxList {
		if e := x.Add(id, of("a", strconv.Itoa(id%10), "b", strconv.Itoa(id))); e != api.OK {
			t.Fatal(id, e)
		}
	}
	if l := matcher.Select(x, nil); len(l) != api.MaxList || l[0] != 0 || l[len(l)-1] != api.MaxList-1 {
		t.Error(len(l))
	}
	wantList(t, "one", matcher.Select(x, []matcher.Match{match("b", matcher.Is, "777")}), []int{777})
	wantList(t, "few", matcher.Select(x, []matcher.Match{match("b", matcher.Like, "6553?"), match("a", matcher.Unlike, "1|2")}), []int{65530, 65533, 65534, 65535})
	if l := matcher.Select(x, []matcher.Match{match("b", matcher.Like, "*"), match("c", matcher.Is, "")}); len(l) != api.MaxList {
		t.Error(len(l))
	}
}

// P606

// TestP606TheOtherWay: of one name and value just one of two fits.
func TestP606TheOtherWay(t *testing.T) {
	r := rand.New(rand.NewPCG(6, 3))
	pieces := []string{"a", "a", "b", "*", "?", "|", `\`, "\u00e9", "\xff"}
	for range 20000 {
		name := []string{"a", "b", "none", ""}[r.IntN(4)]
		value := word(r, 4, pieces...)
		labels := of("b", word(r, 3, pieces...), "a", word(r, 3, pieces...))[r.IntN(3):]
		fits := func(op int) bool { return matcher.Fits([]matcher.Match{match(name, op, value)}, labels) }
		if fits(matcher.Is) == fits(matcher.Not) || fits(matcher.Like) == fits(matcher.Unlike) {
			t.Fatalf("%q %q of %q", name, value, labels)
		}
	}
}

// TestP606Select: of one name and value each number is in just one of two, and all are there.
func TestP606Select(t *testing.T) {
	r := rand.New(rand.NewPCG(6, 4))
	for range 500 {
		x := anyIndex(t, r)
		for _, m := range anyMatches(r) {
			for _, op := range []int{matcher.Is, matcher.Like} {
				one := matcher.Select(x, []matcher.Match{match(m.Name, op, m.Value)})
				other := matcher.Select(x, []matcher.Match{match(m.Name, op+1, m.Value)})
				wantList(t, "in both", postings.And(one, other), nil)
				wantList(t, "in one", postings.Or(one, other), x.All())
			}
		}
	}
}

// P607

func TestP607TwoLists(t *testing.T) {
	r := rand.New(rand.NewPCG(6, 5))
	found := 0
	for range 2000 {
		x, a, b := anyIndex(t, r), anyMatches(r), anyMatches(r)
		both := matcher.Select(x, slices.Concat(a, b))
		wantList(t, "together", both, postings.And(matcher.Select(x, a), matcher.Select(x, b)))
		wantList(t, "turned round", matcher.Select(x, slices.Concat(b, a)), both)
		wantList(t, "twice", matcher.Select(x, slices.Concat(a, a)), matcher.Select(x, a))
		if !postings.Right(both) {
			t.Error("does not rise", both)
		}
		found += len(both)
	}
	if found < 1000 {
		t.Error("too few fit:", found)
	}
}
