package label_test

import (
	"math/rand/v2"
	"reflect"
	"slices"
	"strconv"
	"strings"
	"testing"

	"icehouse/api"
	"icehouse/label"
)

// of: labels from names and values, one behind the other.
func of(words ...string) []api.Label {
	l := []api.Label{}
	for i := 0; i < len(words); i += 2 {
		l = append(l, api.Label{Name: words[i], Value: words[i+1]})
	}
	return l
}

// many: n labels that may be, rising.
func many(n int) []api.Label {
	l := []api.Label{}
	for i := range n {
		l = append(l, api.Label{Name: "n" + string(rune('A'+i)), Value: strconv.Itoa(i)})
	}
	return l
}

// badTexts: each is no good UTF-8, for another reason.
var badTexts = []string{
	"\x80", "\xbf", "\xff", "\xfe", "a\xc3", "\xc3a", "\xe2\x82", "\xe2\x82a", "\xf0\x9f\x98",
	"\xc0\x80", "\xc1\xbf", "\xe0\x9f\xbf", "\xf0\x8f\xbf\xbf", // longer forms
	"\xed\xa0\x80", "\xed\xbf\xbf", // surrogates
	"\xf4\x90\x80\x80", "\xf5\x80\x80\x80", "\xf8\x88\x80\x80\x80", // above U+10FFFF
}

// goodTexts: each bound of UTF-8's lengths, and what looks like an error but is none.
var goodTexts = []string{
	"a", " ", "\x00", "\x7f", "\u0080", "\u07ff", "\u0800", "\ud7ff", "\ue000", "\ufffd", "\uffff",
	"\U00010000", "\U0010ffff", "x\ufffdy", "{}=,\"\\", "\n\t\r", "na\u00efve", "\u2028", "\u0085", "\ufeff",
}

// word: a text out of an alphabet in which all that is near an edge stands.
func word(r *rand.Rand, n int) string {
	signs := []string{"a", "b", "Z", "_", "0", "9", " ", "\"", "\\", "\n", "\t", "\x00", "\x1f", "\x7f", "{", "}", "=", ",", "u", "n", "\u00e9", "\u20ac", "\ufffd", "\U0001f600"}
	var b strings.Builder
	for range n {
		b.WriteString(signs[r.IntN(len(signs))])
	}
	return b.String()
}

// random: labels that may be, rising.
func random(r *rand.Rand) []api.Label {
	names := map[string]int{}
	for range 1 + r.IntN(api.MaxLabels) {
		name := string("abcXYZ_"[r.IntN(7)])
		for range r.IntN(4) {
			name += string("abXZ_019"[r.IntN(8)])
		}
		names[name] = 1
	}
	var l []api.Label
	for name := range names {
		l = append(l, api.Label{Name: name})
	}
	slices.SortFunc(l, func(a, b api.Label) int { return strings.Compare(a.Name, b.Name) })
	for i := range l {
		l[i].Value = word(r, 1+r.IntN(6))
	}
	return l
}

func shuffled(r *rand.Rand, l []api.Label) []api.Label {
	m := slices.Clone(l)
	r.Shuffle(len(m), func(i, j int) { m[i], m[j] = m[j], m[i] })
	return m
}

func wantLabels(t *testing.T, what string, l []api.Label, e api.Errno, wantL []api.Label, wantE api.Errno) {
	t.Helper()
	if e != wantE || !slices.Equal(l, wantL) {
		t.Errorf("%s: %q %d, want %q %d", what, l, e, wantL, wantE)
	}
}

// P202

func TestP202Name(t *testing.T) {
	for _, s := range []string{"a", "z", "A", "Z", "_", "a0", "a9", "_0", "__", "app", "appName_2", "aA_0", strings.Repeat("x", 64)} {
		if !label.Name(s) {
			t.Errorf("%q is a name", s)
		}
	}
	for _, s := range []string{"", "0", "9a", "-", "a-b", "a b", " a", "a ", "a.b", "a:b", "a\x00", "\x00", "\u00e9", "a\u00e9", "a\xff", "\xff", "a\n", "\uff41", "a\u0660", "\u017f", "\u212a", strings.Repeat("x", 65), strings.Repeat("x", 100000)} {
		if label.Name(s) {
			t.Errorf("%q is no name", s)
		}
	}
	// Each byte, as the first one and behind another one.
	for c := range 256 {
		small, great := 'a' <= c && c <= 'z', 'A' <= c && c <= 'Z'
		first := small || great || c == '_'
		if label.Name(string([]byte{byte(c)})) != first {
			t.Errorf("byte %d first", c)
		}
		if label.Name(string([]byte{'a', byte(c)})) != (first || '0' <= c && c <= '9') {
			t.Errorf("byte %d behind", c)
		}
	}
}

func TestP202Value(t *testing.T) {
	for _, s := range append([]string{strings.Repeat("x", 128), strings.Repeat("\u00e9", 64)}, goodTexts...) {
		if !label.Value(s) {
			t.Errorf("%q is a value", s)
		}
	}
	for _, s := range append([]string{"", strings.Repeat("x", 129), strings.Repeat("\u00e9", 64) + "x", strings.Repeat("x", 100000)}, badTexts...) {
		if label.Value(s) {
			t.Errorf("%q is no value", s)
		}
	}
	for _, s := range badTexts {
		if label.Value("good "+s) || label.Value(s+" good") {
			t.Errorf("%q among others is no value", s)
		}
	}
}

// unsorted: lists that may be, but for their order.
func unsorted() [][]api.Label {
	backwards := many(16)
	slices.Reverse(backwards)
	return [][]api.Label{
		of("b", "1", "a", "2"),
		of("a", "x", "B", "x"),
		of("aa", "x", "a", "x"),
		of("a", "x", "_", "x"),
		of("a", "x", "a_", "x", "a0", "x"),
		backwards,
	}
}

// wrong: lists that may not be in any order.
func wrong() [][]api.Label {
	twice := many(16)
	twice[15].Name = twice[0].Name
	last := many(16)
	last[15].Value = ""
	return [][]api.Label{
		nil,
		{},
		of("", "x"),
		of("a", ""),
		of("0", "x"),
		of("a", "\xff"),
		of("a", strings.Repeat("x", 129)),
		of(strings.Repeat("x", 65), "x"),
		of("a", "x", "a", "x"),
		of("a", "x", "a", "y"),
		of("a", "x", "b", "x", "a", "y"),
		of("a", "x", "b", ""),
		of("a", "x", "", "y"),
		of("a", "x", "b c", "y"),
		twice,
		last,
		many(17),
		many(1000),
	}
}

// right: lists that may be.
func right() [][]api.Label {
	return [][]api.Label{
		of("a", "x"),
		of("a", "x", "b", "x"),
		of("B", "x", "_", "x", "a", "x", "a0", "x", "aA", "x", "a_", "x", "aa", "x"),
		of(strings.Repeat("x", 64), strings.Repeat("y", 128)),
		of("a", " \"\\\n\t\x00\x7f{},="),
		many(1), many(15), many(16),
	}
}

func TestP202Right(t *testing.T) {
	for _, l := range right() {
		if !label.Right(l) {
			t.Errorf("%q may be", l)
		}
	}
	for _, l := range append(unsorted(), wrong()...) {
		if label.Right(l) {
			t.Errorf("%q may not be", l)
		}
	}
}

func TestP202Sort(t *testing.T) {
	l, e := label.Sort(of("b", "1", "_", "2", "a", "3", "B", "4", "a0", "5"))
	wantLabels(t, "Sort", l, e, of("B", "4", "_", "2", "a", "3", "a0", "5", "b", "1"), api.OK)
	for _, in := range right() {
		l, e := label.Sort(in)
		wantLabels(t, "Sort of what is sorted", l, e, in, api.OK)
	}
	for _, in := range unsorted() {
		l, e := label.Sort(in)
		if e != api.OK || !label.Right(l) || len(l) != len(in) {
			t.Errorf("%q: %q %d", in, l, e)
		}
		for _, x := range in {
			if !slices.Contains(l, x) {
				t.Errorf("%q: %q misses %q", in, l, x)
			}
		}
	}
	for _, in := range wrong() {
		l, e := label.Sort(in)
		wantLabels(t, "Sort", l, e, nil, api.ErrLabel)
	}
	long, e := label.Sort(slices.Repeat(of("a", "x"), 1<<20))
	wantLabels(t, "Sort of a long list", long, e, nil, api.ErrLabel)
}

func TestP202Get(t *testing.T) {
	// Of any list: in no order, with a name twice, or with what is no name.
	l := of("b", "1", "a", "2", "b", "3", "", "4", "0", "", "\xff", "5")
	for _, c := range []struct {
		name, value string
		ok          bool
	}{{"b", "1", true}, {"a", "2", true}, {"", "4", true}, {"0", "", true}, {"\xff", "5", true}, {"c", "", false}, {"B", "", false}, {"aa", "", false}, {"\ufffd", "", false}} {
		if v, ok := label.Get(l, c.name); v != c.value || ok != c.ok {
			t.Errorf("%q: %q %v", c.name, v, ok)
		}
	}
	for _, l := range [][]api.Label{nil, {}, of("a", "x")} {
		if v, ok := label.Get(l, ""); v != "" || ok {
			t.Errorf("%q: %q %v", l, v, ok)
		}
	}
}

func TestP202Compare(t *testing.T) {
	// Rising: each is less than all behind it.
	rising := [][]api.Label{
		nil,
		of("", ""),
		of("", "", "", ""),
		of("", "z"),
		of("A", "x"),
		of("_", "x"),
		of("a", ""),
		of("a", "w", "z", "z"),
		of("a", "x"),
		of("a", "x", "a", "x"),
		of("a", "x", "b", "x"),
		of("a", "x", "b", "x", "c", "x"),
		of("a", "x", "b", "x", "c", "y"),
		of("a", "x", "b", "y"),
		of("a", "x", "c", "a"),
		of("a", "x\x00"),
		of("a", "xx"),
		of("a", "y"),
		of("aa", "a"),
		of("b", "a"),
		of("b", "\x7f"),
		of("b", "\u00e9"),
		of("b", "\uffff"),
		of("b", "\U00010000"),
		of("b", "\xff"),
		of("c", ""),
	}
	for i, a := range rising {
		for j, b := range rising {
			sign := 0
			if i < j {
				sign = -1
			}
			if i > j {
				sign = 1
			}
			if got := label.Compare(a, b); got != sign {
				t.Errorf("%q %q: %d, want %d", a, b, got, sign)
			}
		}
	}
	if label.Compare(nil, []api.Label{}) != 0 || label.Compare([]api.Label{}, nil) != 0 {
		t.Error("nil and empty mean the same")
	}
}

// P206

func TestP206OneForm(t *testing.T) {
	r := rand.New(rand.NewPCG(2, 6))
	for range 1000 {
		l := random(r)
		text := label.Print(l)
		bytes, e := label.Bytes(l)
		if e != api.OK || text == "" {
			t.Fatal(l, e)
		}
		for range 4 {
			sorted, e := label.Sort(shuffled(r, l))
			wantLabels(t, "sorted", sorted, e, l, api.OK)
			again, e := label.Bytes(sorted)
			if e != api.OK || string(again) != string(bytes) || label.Print(sorted) != text {
				t.Fatalf("%q: %q % x", l, label.Print(sorted), again)
			}
		}
	}
}

// P207

func TestP207AnOrder(t *testing.T) {
	r := rand.New(rand.NewPCG(2, 7))
	some := func() []api.Label {
		l := []api.Label{}
		for range r.IntN(4) {
			l = append(l, api.Label{Name: word(r, r.IntN(2)), Value: word(r, r.IntN(2))})
		}
		return l
	}
	for range 50000 {
		a, b := some(), some()
		c := some()
		if r.IntN(2) == 0 { // one that begins as another one does
			b = append(slices.Clone(a[:r.IntN(len(a)+1)]), b...)
		}
		ab, bc := label.Compare(a, b), label.Compare(b, c)
		if (ab == 0) != slices.Equal(a, b) {
			t.Fatalf("%q %q: %d", a, b, ab)
		}
		if ab < -1 || ab > 1 || label.Compare(b, a) != -ab || label.Compare(a, a) != 0 {
			t.Fatalf("%q %q: %d turned round %d", a, b, ab, label.Compare(b, a))
		}
		if ab <= 0 && bc <= 0 && label.Compare(a, c) != min(ab, bc) {
			t.Fatalf("%q %q %q: %d %d %d", a, b, c, ab, bc, label.Compare(a, c))
		}
	}
}

// P201

func TestP201NothingIsChanged(t *testing.T) {
	mark := api.Label{Name: "mark", Value: "mark"}
	for _, words := range [][]string{{"b", "1", "a", "2"}, {"a", "2", "b", "1"}, {"b", "1", "a", ""}} {
		all := append(of(words...), mark, mark, mark)
		l := all[:2]
		before := slices.Clone(all)
		label.Right(l)
		label.Sort(l)
		label.Get(l, "a")
		label.Compare(l, l[:1])
		label.Print(l)
		label.Bytes(l)
		if !slices.Equal(all, before) {
			t.Errorf("%q is changed to %q", before, all)
		}
	}
	b, _ := label.Bytes(of("a", "x"))
	all := append(slices.Clone(b), 1, 2, 3)
	before := slices.Clone(all)
	label.Read(all[:len(b)])
	label.Read(all)
	if !slices.Equal(all, before) {
		t.Error("Read changes bytes", all)
	}
}

func TestP201NothingIsShared(t *testing.T) {
	in := of("b", "1", "a", "2")
	sorted, _ := label.Sort(in)
	clear(in)
	want := of("a", "2", "b", "1")
	wantLabels(t, "Sort", sorted, api.OK, want, api.OK)
	bytes, _ := label.Bytes(sorted)
	read, _ := label.Read(bytes)
	clear(bytes[:cap(bytes)])
	wantLabels(t, "Read", read, api.OK, want, api.OK)
	for _, answer := range []func() []api.Label{
		func() []api.Label { l, _ := label.Sort(want); return l },
		func() []api.Label { l, _ := label.Parse(`{b="1", a="2"}`); return l },
		func() []api.Label { b, _ := label.Bytes(want); l, _ := label.Read(b); return l },
	} {
		first, second := answer(), answer()
		clear(first[:cap(first)])
		if !slices.Equal(second, of("a", "2", "b", "1")) || !slices.Equal(answer(), second) || !slices.Equal(want, second) {
			t.Errorf("shared: %q", second)
		}
	}
	first, _ := label.Bytes(want)
	second, _ := label.Bytes(want)
	clear(first[:cap(first)])
	if third, _ := label.Bytes(want); !slices.Equal(second, third) || slices.Equal(first, third) {
		t.Error("shared", first, second, third)
	}
}

// TestP201BesideAnError: all else is nothing.
func TestP201BesideAnError(t *testing.T) {
	if l, e := label.Sort(nil); len(l) != 0 || e != api.ErrLabel {
		t.Error(l, e)
	}
	if l, e := label.Parse(`{a="x"`); len(l) != 0 || e != api.ErrLabel {
		t.Error(l, e)
	}
	if b, e := label.Bytes(of("a", "")); len(b) != 0 || e != api.ErrLabel {
		t.Error(b, e)
	}
	if l, e := label.Read([]byte{1, 1, 'a', 1, 'x', 0}); len(l) != 0 || e != api.ErrForm {
		t.Error(l, e)
	}
	if s, n, ok := label.Unquote(`"some text`); s != "" || n != 0 || ok {
		t.Error(s, n, ok)
	}
}

// TestP201TheSameAgain: what is asked twice is answered the same.
func TestP201TheSameAgain(t *testing.T) {
	r := rand.New(rand.NewPCG(2, 1))
	for range 200 {
		l := shuffled(r, random(r))
		ask := func() []any {
			sorted, e := label.Sort(l)
			text := label.Print(sorted)
			parsed, f := label.Parse(text)
			bytes, g := label.Bytes(parsed)
			read, h := label.Read(bytes)
			return []any{sorted, e, text, parsed, f, bytes, g, read, h, label.Compare(l, read)}
		}
		if a, b := ask(), ask(); !reflect.DeepEqual(a, b) {
			t.Fatal(a, b)
		}
	}
}
