package matcher_test

import (
	"math"
	"math/rand/v2"
	"reflect"
	"slices"
	"strings"
	"testing"

	"icehouse/api"
	"icehouse/matcher"
	"icehouse/postings"
)

// P601

// roomy: a list with more behind it, which no call may change.
func roomy[T any](l []T, behind T) []T {
	return append(slices.Clone(l), behind, behind)[:len(l)]
}

// whole: a list with the two things that lie behind it.
func whole[T any](l []T) []T { return slices.Clone(l[:len(l)+2]) }

func TestP601NothingIsChanged(t *testing.T) {
	r := rand.New(rand.NewPCG(6, 8))
	queries := append(edges(), wrongs()...)
	for range 200 {
		queries = append(queries, anyQuery(r), matcher.Query{Matches: anyMatches(r), To: 9})
	}
	x := few(t)
	all, names := x.All(), x.Names()
	for _, q := range queries {
		q.Matches = roomy(q.Matches, match("mark", 77, "mark"))
		labels := roomy(of("a", "x", "b", "y"), api.Label{Name: "mark", Value: "mark"})
		matches, before := whole(q.Matches), whole(labels)
		matcher.Right(q)
		matcher.Print(q)
		matcher.Fits(q.Matches, labels)
		matcher.Takes(q, api.Entry{Seq: 1, Time: 5, Labels: labels, Line: "line"})
		matcher.Select(x, q.Matches)
		if !slices.Equal(matches, whole(q.Matches)) || !slices.Equal(before, whole(labels)) {
			t.Errorf("changed %+v", q)
		}
	}
	if !slices.Equal(x.All(), all) || !slices.Equal(x.Names(), names) || !slices.Equal(x.Of("a", "x"), few(t).Of("a", "x")) {
		t.Error("the index is changed")
	}
}

// TestP601AnswersAreNew: they share nothing with one another, nor with what the index has.
func TestP601AnswersAreNew(t *testing.T) {
	x := few(t)
	for _, l := range [][]matcher.Match{nil, {match("a", matcher.Is, "x")}, {match("a", matcher.Like, "*"), match("b", matcher.Not, "z")}} {
		first, second, want := matcher.Select(x, l), matcher.Select(x, l), matcher.Select(few(t), l)
		clear(first[:cap(first)])
		wantList(t, "shares with another answer", second, want)
		wantList(t, "shares with the index", matcher.Select(x, l), want)
		wantList(t, "shares with the index", x.All(), few(t).All())
	}
	const s = `{a="x", b!="y"} has "u"`
	first, _ := matcher.Parse(s)
	second, _ := matcher.Parse(s)
	clear(first.Matches[:cap(first.Matches)])
	want := matcher.Query{Matches: []matcher.Match{match("a", matcher.Is, "x"), match("b", matcher.Not, "y")}, Has: "u", To: api.MaxTime}
	if !same(second, want) {
		t.Errorf("%+v shares with another answer", second)
	}
	wantQuery(t, s, want)
}

// TestP601NilAndEmpty: they mean the same.
func TestP601NilAndEmpty(t *testing.T) {
	x := few(t)
	for _, none := range [][]matcher.Match{nil, {}} {
		q := matcher.Query{Matches: none, To: 9}
		if !matcher.Right(q) || matcher.Print(q) != "{} to 9" || !matcher.Takes(q, api.Entry{}) || !matcher.Takes(q, api.Entry{Labels: []api.Label{}}) {
			t.Error("a query without matches")
		}
		wantList(t, "Select", matcher.Select(x, none), x.All())
	}
}

// TestP601AnyArguments: every call answers, whatever it is given.
func TestP601AnyArguments(t *testing.T) {
	numbers := []int{math.MinInt, -1, 0, 1, api.MaxTime, math.MaxInt}
	texts := append(badTexts(), "", "x", "*", `\`, "|", "\x00", strings.Repeat("x", 1<<17), strings.Repeat("\xff*", 1<<10))
	for _, s := range texts {
		for _, u := range texts {
			if !matcher.Glob("*", s) || matcher.Glob(s, u) != matcher.Glob("|"+s, u) && u != "" {
				t.Errorf("%.20q %.20q", s, u)
			}
		}
		wantNoQuery(t, s)
		for _, n := range numbers {
			l := []matcher.Match{match(s, n, s), match(s, matcher.Like, s)}
			q := matcher.Query{Matches: l, Has: s, From: n, To: n, Limit: n}
			for _, m := range numbers {
				q.To = m
				if matcher.Right(q) != (matcher.Print(q) != "") {
					t.Errorf("%.200q", matcher.Print(q))
				}
				matcher.Takes(q, api.Entry{Seq: n, Time: m, Labels: of(s, s, s, s), Line: s})
			}
			matcher.Fits(l, of(s, s))
			for _, x := range []*postings.Index{nil, {}, postings.New(), few(t)} {
				matcher.Select(x, l)
			}
		}
	}
}

// TestP601TheSameAgain: what is asked twice is answered the same.
func TestP601TheSameAgain(t *testing.T) {
	r := rand.New(rand.NewPCG(6, 9))
	for range 300 {
		q, x, l := anyQuery(r), anyIndex(t, r), anyMatches(r)
		entry := api.Entry{Seq: 1, Time: r.IntN(30), Labels: of("a", "x"), Line: "a"}
		ask := func() []any {
			back, e := matcher.Parse(matcher.Print(q))
			return []any{back, e, matcher.Print(q), matcher.Right(q), matcher.Fits(l, entry.Labels), matcher.Takes(q, entry), matcher.Select(x, l), matcher.Glob(q.Has, "ab")}
		}
		if a, b := ask(), ask(); !reflect.DeepEqual(a, b) {
			t.Fatal(a, b)
		}
	}
}
