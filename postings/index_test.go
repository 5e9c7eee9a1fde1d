package postings_test

import (
	"math"
	"math/rand/v2"
	"slices"
	"strconv"
	"strings"
	"testing"

	"icehouse/api"
	"icehouse/label"
	"icehouse/postings"
)

// of: labels from names and values, one behind the other.
func of(words ...string) []api.Label {
	l := []api.Label{}
	for i := 0; i < len(words); i += 2 {
		l = append(l, api.Label{Name: words[i], Value: words[i+1]})
	}
	return l
}

// model: an index's numbers with their labels, gone through anew for each look.
type model map[int][]api.Label

// ids: the numbers of which takes says so, rising.
func (m model) ids(takes func(l []api.Label) bool) []int {
	out := []int{}
	for id, l := range m {
		if takes(l) {
			out = append(out, id)
		}
	}
	slices.Sort(out)
	return out
}

func (m model) all() []int { return m.ids(func([]api.Label) bool { return true }) }

func (m model) of(name, value string) []int {
	return m.ids(func(l []api.Label) bool { return slices.Contains(l, api.Label{Name: name, Value: value}) })
}

func (m model) with(name string) []int {
	return m.ids(func(l []api.Label) bool {
		return slices.ContainsFunc(l, func(p api.Label) bool { return p.Name == name })
	})
}

// texts: what tell answers of a label with true, rising, each once.
func (m model) texts(tell func(p api.Label) (string, bool)) []string {
	out := []string{}
	for _, l := range m {
		for _, p := range l {
			if s, ok := tell(p); ok && !slices.Contains(out, s) {
				out = append(out, s)
			}
		}
	}
	slices.Sort(out)
	return out
}

func (m model) names() []string {
	return m.texts(func(p api.Label) (string, bool) { return p.Name, true })
}

func (m model) values(name string) []string {
	return m.texts(func(p api.Label) (string, bool) { return p.Value, p.Name == name })
}

func wantTexts(t *testing.T, what string, got, want []string) {
	t.Helper()
	if !slices.Equal(got, want) {
		t.Errorf("%s: %q, want %q", what, got[:min(len(got), 20)], want[:min(len(want), 20)])
	}
}

// wantIndex: whether all looks tell the model, also by names and values that nothing there has.
func wantIndex(t *testing.T, x *postings.Index, m model) {
	t.Helper()
	wantList(t, "All", x.All(), m.all())
	wantTexts(t, "Names", x.Names(), m.names())
	for _, name := range append(m.names(), "", "none", "a", "b", "0") {
		wantList(t, "With "+name, x.With(name), m.with(name))
		wantTexts(t, "Values "+name, x.Values(name), m.values(name))
		for _, value := range append(m.values(name), "", "none", "x", "y", name) {
			wantList(t, "Of "+name+" "+value, x.Of(name, value), m.of(name, value))
		}
	}
	for id, l := range m {
		if got, e := x.Labels(id); e != api.OK || !slices.Equal(got, l) {
			t.Errorf("Labels(%d): %v %d, want %v", id, got, e, l)
		}
	}
	for _, id := range noIDs() {
		if _, there := m[id]; !there {
			wantNoLabels(t, x, id, api.ErrNone)
		}
	}
}

func wantNoLabels(t *testing.T, x *postings.Index, id int, want api.Errno) {
	t.Helper()
	if l, e := x.Labels(id); e != want || len(l) != 0 {
		t.Errorf("Labels(%d): %v %d, want %d and nothing", id, l, e, want)
	}
}

func wantE(t *testing.T, what string, got, want api.Errno) {
	t.Helper()
	if got != want {
		t.Errorf("%s: %d, want %d", what, got, want)
	}
}

// noIDs: numbers that no index has.
func noIDs() []int {
	return []int{-1, -2, math.MinInt, math.MinInt + 1, idEnd, idEnd + 1, math.MaxInt - 1, math.MaxInt}
}

// noLabels: labels that may not be.
func noLabels() [][]api.Label {
	var many []string
	for i := range api.MaxLabels + 1 {
		many = append(many, string(rune('a'+i)), "x")
	}
	return [][]api.Label{
		nil, {}, of("", "x"), of("a", ""), of("0", "x"), of("a-", "x"), of("a", "\xff"), {{}},
		of("b", "x", "a", "x"), of("a", "x", "a", "x"), of("a", "x", "a", "y"), of("a", "x", "", "y"),
		of(strings.Repeat("n", api.MaxName+1), "x"), of("a", strings.Repeat("v", api.MaxValue+1)), of(many...),
	}
}

// few: an index of some numbers, and its model.
func few(t *testing.T) (*postings.Index, model) {
	t.Helper()
	m := model{
		0: of("a", "x"), 7: of("a", "y", "b", "x"), idEnd - 1: of("a", "x", "b", "y", "c", "x"),
		5: of("B", "\u00e9"), 300: of("a", "x", "b", "x"), 6: of("a", "x"),
	}
	x := postings.New()
	for _, id := range []int{7, 0, idEnd - 1, 300, 5, 6} {
		wantE(t, "Add", x.Add(id, m[id]), api.OK)
	}
	return x, m
}

// P501

func TestP501NobodyMade(t *testing.T) {
	for _, x := range []*postings.Index{nil, {}, new(postings.Index)} {
		for range 2 { // it stays so, whatever was called
			for _, id := range append(noIDs(), 0, 1, 5, idEnd-1) {
				for _, l := range append(noLabels(), of("a", "x")) {
					wantE(t, "Add", x.Add(id, l), api.ErrArg)
				}
				wantE(t, "Remove", x.Remove(id), api.ErrArg)
				wantNoLabels(t, x, id, api.ErrArg)
			}
			for _, s := range []string{"", "a", "x"} {
				if len(x.All())+len(x.Of(s, "x"))+len(x.With(s))+len(x.Names())+len(x.Values(s)) != 0 {
					t.Error("it answers something")
				}
			}
		}
	}
}

// P503

func TestP503AddRemoveLabels(t *testing.T) {
	x := postings.New()
	wantE(t, "Remove from an empty one", x.Remove(5), api.ErrNone)
	wantNoLabels(t, x, 5, api.ErrNone)
	wantE(t, "Add", x.Add(5, of("a", "x")), api.OK)
	wantE(t, "Add of the same again", x.Add(5, of("a", "x")), api.ErrThere)
	wantE(t, "Add of others again", x.Add(5, of("b", "y")), api.ErrThere)
	wantIndex(t, x, model{5: of("a", "x")})
	wantE(t, "Add of another number", x.Add(6, of("a", "x")), api.OK)
	wantIndex(t, x, model{5: of("a", "x"), 6: of("a", "x")})
	wantE(t, "Remove", x.Remove(5), api.OK)
	wantE(t, "Remove again", x.Remove(5), api.ErrNone)
	wantNoLabels(t, x, 5, api.ErrNone)
	wantIndex(t, x, model{6: of("a", "x")})
	wantE(t, "Add behind Remove", x.Add(5, of("b", "y")), api.OK)
	wantIndex(t, x, model{5: of("b", "y"), 6: of("a", "x")})
}

func TestP503Errors(t *testing.T) {
	x, m := few(t)
	good := of("a", "x")
	for _, id := range noIDs() {
		for _, l := range append(noLabels(), good) {
			wantE(t, "Add of no number", x.Add(id, l), api.ErrArg)
		}
		wantE(t, "Remove of no number", x.Remove(id), api.ErrNone)
		wantNoLabels(t, x, id, api.ErrNone)
	}
	for _, l := range noLabels() {
		wantE(t, "Add of no labels", x.Add(1, l), api.ErrLabel)
		wantE(t, "Add of no labels to what is there", x.Add(5, l), api.ErrLabel)
	}
	for id := range m {
		wantE(t, "Add of what is there", x.Add(id, good), api.ErrThere)
	}
	for _, id := range []int{1, 4, 8, 299, idEnd - 2} {
		wantE(t, "Remove", x.Remove(id), api.ErrNone)
		wantNoLabels(t, x, id, api.ErrNone)
	}
	wantIndex(t, x, m)
}

// TestP503Edges: the least and the greatest number, labels with all that they may have.
func TestP503Edges(t *testing.T) {
	var words []string
	for i := range api.MaxLabels {
		words = append(words, string(rune('a'+i))+strings.Repeat("n", api.MaxName-1), strings.Repeat("v", api.MaxValue))
	}
	m := model{0: of(words...), idEnd - 1: of(words[2:]...), 1: of("_", "\x00")}
	x := postings.New()
	for id, l := range m {
		wantE(t, "Add", x.Add(id, l), api.OK)
	}
	wantIndex(t, x, m)
	for id := range m {
		wantE(t, "Remove", x.Remove(id), api.OK)
	}
	wantIndex(t, x, model{})
}

func TestP503Full(t *testing.T) {
	x := postings.New()
	id := func(i int) int { return i * 31 % api.MaxList * (1 << 23) }
	for i := range api.MaxList {
		if e := x.Add(id(i), of("a", strconv.Itoa(i%7), "b", strconv.Itoa(i))); e != api.OK {
			t.Fatal(i, e)
		}
	}
	all := steps(0, api.MaxList, 1<<23)
	full := func() {
		wantE(t, "one more", x.Add(1, of("a", "x")), api.ErrFull)
		wantE(t, "of no number", x.Add(-1, of("a", "x")), api.ErrArg)
		wantE(t, "of no labels", x.Add(1, nil), api.ErrLabel)
		wantE(t, "of what is there", x.Add(0, of("a", "x")), api.ErrThere)
		wantNoLabels(t, x, 1, api.ErrNone)
		if len(x.Of("a", "x")) != 0 || len(x.With("b")) != api.MaxList || len(x.Values("b")) != api.MaxList || len(x.Values("a")) != 7 {
			t.Error("changed")
		}
	}
	full()
	full()
	wantList(t, "All", x.All(), all)
	wantList(t, "With", x.With("a"), all)
	// One goes, and there is room for one.
	wantE(t, "Remove", x.Remove(id(1)), api.OK)
	wantE(t, "Add", x.Add(id(1), of("a", "1", "b", "1")), api.OK)
	full()
	wantList(t, "All again", x.All(), all)
	for i := range api.MaxList {
		if e := x.Remove(id(i)); e != api.OK {
			t.Fatal(i, e)
		}
	}
	wantIndex(t, x, model{})
}

// TestP503TwoIndexes: each has its own numbers.
func TestP503TwoIndexes(t *testing.T) {
	x, m := few(t)
	y := postings.New()
	wantIndex(t, y, model{})
	wantE(t, "Add", y.Add(7, of("z", "z")), api.OK)
	wantE(t, "Remove", x.Remove(0), api.OK)
	delete(m, 0)
	wantIndex(t, x, m)
	wantIndex(t, y, model{7: of("z", "z")})
}

// P504

func TestP504Looks(t *testing.T) {
	x, m := few(t)
	wantList(t, "All", x.All(), []int{0, 5, 6, 7, 300, idEnd - 1})
	wantList(t, "Of a x", x.Of("a", "x"), []int{0, 6, 300, idEnd - 1})
	wantList(t, "Of a y", x.Of("a", "y"), []int{7})
	wantList(t, "Of b x", x.Of("b", "x"), []int{7, 300})
	wantList(t, "With a", x.With("a"), []int{0, 6, 7, 300, idEnd - 1})
	wantList(t, "With b", x.With("b"), []int{7, 300, idEnd - 1})
	wantList(t, "With c", x.With("c"), []int{idEnd - 1})
	wantTexts(t, "Names", x.Names(), []string{"B", "a", "b", "c"})
	wantTexts(t, "Values a", x.Values("a"), []string{"x", "y"})
	wantTexts(t, "Values B", x.Values("B"), []string{"\u00e9"})
	wantIndex(t, x, m)
	wantIndex(t, postings.New(), model{})
}

// TestP504None: names and values that no label has, or no label of that name.
func TestP504None(t *testing.T) {
	x, m := few(t)
	for _, c := range [][2]string{
		{"", ""}, {"", "x"}, {"a", ""}, {"d", "x"}, {"A", "x"}, {"a", "X"}, {"x", "a"}, {"c", "y"}, {"B", "x"}, {"B", "\xc3"}, {"a", "xx"}, {"\xff", "\xff"},
		{strings.Repeat("a", 1<<16), strings.Repeat("x", 1<<16)},
	} {
		wantList(t, "Of "+strconv.Quote(c[0])+" "+strconv.Quote(c[1]), x.Of(c[0], c[1]), nil)
	}
	for _, name := range []string{"", "d", "A", "x", "aa", "\xff", strings.Repeat("a", 1<<16)} {
		wantList(t, "With "+strconv.Quote(name), x.With(name), nil)
		wantTexts(t, "Values "+strconv.Quote(name), x.Values(name), nil)
	}
	// A look leaves nothing behind.
	wantIndex(t, x, m)
}

// TestP504BehindRemove: what no label has any more is told no more.
func TestP504BehindRemove(t *testing.T) {
	x, m := few(t)
	for _, id := range []int{7, 5, idEnd - 1, 300, 0, 6} {
		wantE(t, "Remove", x.Remove(id), api.OK)
		delete(m, id)
		wantIndex(t, x, m)
	}
	x, _ = few(t)
	wantE(t, "Remove", x.Remove(5), api.OK)
	wantTexts(t, "Names", x.Names(), []string{"a", "b", "c"})
	wantE(t, "Remove", x.Remove(7), api.OK)
	wantTexts(t, "Values", x.Values("a"), []string{"x"})
	wantList(t, "Of", x.Of("a", "y"), nil)
	wantList(t, "With", x.With("b"), []int{300, idEnd - 1})
	wantE(t, "Remove", x.Remove(idEnd-1), api.OK)
	wantTexts(t, "Names", x.Names(), []string{"a", "b"})
	wantTexts(t, "Values", x.Values("c"), nil)
	wantList(t, "With", x.With("c"), nil)
}

// some: labels that may be, of few names and values.
func some(r *rand.Rand) []api.Label {
	var words []string
	for _, name := range []string{"A", "_", "a", "b", "bb"} {
		if r.IntN(2) == 0 {
			words = append(words, name, []string{"x", "y", "xy", " ", "\u00e9"}[r.IntN(5)])
		}
	}
	if len(words) == 0 {
		return of("a", "x")
	}
	return of(words...)
}

// told: by chance something is added or removed, and it is answered as the model tells.
func told(t *testing.T, r *rand.Rand, x *postings.Index, m model) {
	t.Helper()
	id := []int{r.IntN(40), idEnd - 1 - r.IntN(4), -1 - r.IntN(3), idEnd + r.IntN(3)}[max(0, r.IntN(12)-8)]
	_, there := m[id]
	if r.IntN(2) == 0 {
		want := api.ErrNone
		if there {
			want = api.OK
		}
		wantE(t, "Remove", x.Remove(id), want)
		delete(m, id)
		return
	}
	l := some(r)
	if r.IntN(8) == 0 {
		l = noLabels()[r.IntN(len(noLabels()))]
	}
	switch e := x.Add(id, l); {
	case id < 0 || id >= idEnd:
		wantE(t, "Add", e, api.ErrArg)
	case !label.Right(l):
		wantE(t, "Add", e, api.ErrLabel)
	case there:
		wantE(t, "Add", e, api.ErrThere)
	default:
		wantE(t, "Add", e, api.OK)
		m[id] = l
	}
}

func TestP504Any(t *testing.T) {
	r := rand.New(rand.NewPCG(5, 6))
	for range 30 {
		x, m := postings.New(), model{}
		for range 100 {
			told(t, r, x, m)
			wantIndex(t, x, m)
		}
	}
}

// P506

// wantOwn: what an index's looks say of one another.
func wantOwn(t *testing.T, x *postings.Index) {
	t.Helper()
	all := x.All()
	if !postings.Right(all) {
		t.Error("All may not be a list", all)
	}
	names := append(x.Names(), "none", "")
	for _, name := range names {
		with := x.With(name)
		wantList(t, "With is in All", postings.And(with, all), with)
		var or []int
		for _, value := range append(x.Values(name), "none", "") {
			ids := x.Of(name, value)
			wantList(t, "Of is in With", postings.And(ids, with), ids)
			if !postings.Right(ids) {
				t.Error("Of may not be a list", ids)
			}
			or = postings.Or(or, ids)
		}
		wantList(t, "With is the Or of Of", with, or)
	}
	// A number has just the labels of which Of has it.
	for _, id := range all {
		l, e := x.Labels(id)
		if e != api.OK || !label.Right(l) {
			t.Fatalf("Labels(%d): %v %d", id, l, e)
		}
		var has []api.Label
		for _, name := range x.Names() {
			for _, value := range x.Values(name) {
				if slices.Contains(x.Of(name, value), id) {
					has = append(has, api.Label{Name: name, Value: value})
				}
			}
		}
		if !slices.Equal(l, has) {
			t.Errorf("Labels(%d): %v, but Of has it of %v", id, l, has)
		}
	}
}

func TestP506Own(t *testing.T) {
	x, _ := few(t)
	wantOwn(t, x)
	wantOwn(t, postings.New())
	wantE(t, "Remove", x.Remove(7), api.OK)
	wantOwn(t, x)
	r := rand.New(rand.NewPCG(5, 7))
	for range 60 {
		x, m := postings.New(), model{}
		for range r.IntN(150) {
			told(t, r, x, m)
		}
		wantOwn(t, x)
	}
}

// TestP506NeverHas: numbers without labels are in no look.
func TestP506NeverHas(t *testing.T) {
	x, _ := few(t)
	for _, id := range append(noIDs(), 1, 2, 299) {
		wantNoLabels(t, x, id, api.ErrNone)
		if slices.Contains(x.All(), id) {
			t.Error(id, "is in All")
		}
		for _, name := range x.Names() {
			if slices.Contains(x.With(name), id) {
				t.Error(id, "is in With", name)
			}
		}
	}
}
