package matcher_test

import (
	"math/rand/v2"
	"regexp"
	"strings"
	"testing"

	"icehouse/matcher"
)

// P602

// wantGlob: whether the pattern fits each of the first texts and none of the second ones.
func wantGlob(t *testing.T, pattern string, fits, not []string) {
	t.Helper()
	for _, s := range fits {
		if !matcher.Glob(pattern, s) {
			t.Errorf("%q fits %q", pattern, s)
		}
	}
	for _, s := range not {
		if matcher.Glob(pattern, s) {
			t.Errorf("%q does not fit %q", pattern, s)
		}
	}
}

func TestP602Glob(t *testing.T) {
	for _, c := range []struct {
		pattern   string
		fits, not []string
	}{
		{"", []string{""}, []string{"a", " ", "\x00", "|", "*"}},
		{"abc", []string{"abc"}, []string{"", "ab", "abcd", "xabc", "ABC", "abd", "bc"}},
		{"\x00\n ", []string{"\x00\n "}, []string{"", "\x00\n", "\n "}},
		// The whole text, not a piece of it.
		{"b", []string{"b"}, []string{"abc", "ab", "bc", "bb"}},
		{"*", []string{"", "a", "abc", "*", "\n", "\u00e9\xff", "a\nb"}, nil},
		{"**", []string{"", "a", "abc"}, nil},
		{"a*", []string{"a", "ab", "aa", "abca"}, []string{"", "b", "ba"}},
		{"*a", []string{"a", "ba", "aa", "abca"}, []string{"", "b", "ab", "aab"}},
		{"*b*", []string{"b", "ab", "bc", "abc", "bb"}, []string{"", "a", "ac"}},
		{"a*c", []string{"ac", "abc", "acc", "abcbc", "aac"}, []string{"", "a", "c", "acb", "bac", "ab"}},
		{"a*b*c", []string{"abc", "aXbYc", "abbc", "abcbc", "acbc"}, []string{"ac", "acb", "bac", "abcd", "aXc"}},
		{"a**c", []string{"ac", "abc"}, []string{"a", "acb"}},
		// The last * must be given more than what it took first.
		{"*aab", []string{"aab", "aaab", "aabaab", "xaaaab"}, []string{"aaba", "ab", "aaabb"}},
		{"*ab*ab", []string{"abab", "aabxaab", "ababab"}, []string{"ab", "aba", "ababa"}},
		// No two pieces take the same runes.
		{"aa*aa", []string{"aaaa", "aaaaa", "aabaa"}, []string{"aa", "aaa"}},
		{"a*a", []string{"aa", "aba"}, []string{"a"}},
		{"?", []string{"a", " ", "?", "\n", "\x00", "\u00e9", "\U0001f600", "\ufffd"}, []string{"", "ab"}},
		{"??", []string{"ab", "\u00e9\u00e9", "\u20aca"}, []string{"", "a", "abc", "\u00e9"}},
		{"a?c", []string{"abc", "a?c", "a\u20acc"}, []string{"ac", "abbc", "ab"}},
		{"?*", []string{"a", "abc"}, []string{""}},
		{"*?", []string{"a", "abc"}, []string{""}},
		{"*?a?*", []string{"xay", "aaa", "xxayy"}, []string{"aa", "xa", "ay", ""}},
		{"b?", []string{"bc"}, []string{"b", "bcd", "cb"}},
		// A sign with a \ ahead is a rune.
		{`\*`, []string{"*"}, []string{"", "a", `\*`, "**", `\`}},
		{`\?`, []string{"?"}, []string{"", "a", `\?`}},
		{`\\`, []string{`\`}, []string{"", `\\`, "a"}},
		{`\|`, []string{"|"}, []string{"", `\`, `\|`, "a"}},
		{`a\|b`, []string{"a|b"}, []string{"a", "b", `a\`, `a\|b`}},
		{`\a\b`, []string{"ab"}, []string{`\a\b`, "a", ""}},
		{"\\\u00e9", []string{"\u00e9"}, []string{"\\\u00e9", "\xc3\xa9\xa9", "e"}},
		{`*\**`, []string{"*", "a*b"}, []string{"", "ab", `\`}},
		{`\\*`, []string{`\`, `\a`, `\\`}, []string{"", "a", "*"}},
		{`\\\*`, []string{`\*`}, []string{`\`, `\a`, `\\*`}},
		// A \ at the end is itself.
		{`\`, []string{`\`}, []string{"", `\\`, "a"}},
		{`a\`, []string{`a\`}, []string{"a", `a\\`, ""}},
		{`*\`, []string{`\`, `a\`, `\\`}, []string{"", `\a`}},
		{`a\\`, []string{`a\`}, []string{`a\\`, "a"}},
		{`\\\`, []string{`\\`}, []string{`\`, `\\\`}},
		{`a|\`, []string{"a", `\`}, []string{"", `a|\`, "|"}},
		{`\\|a`, []string{`\`, "a"}, []string{`\|a`, "|a", ""}},
	} {
		wantGlob(t, c.pattern, c.fits, c.not)
	}
}

func TestP602GlobParts(t *testing.T) {
	for _, c := range []struct {
		pattern   string
		fits, not []string
	}{
		{"a*|b?", []string{"a", "ab", "bc", "a|b"}, []string{"b", "bcd", "", "cb"}},
		{"a|b", []string{"a", "b"}, []string{"", "ab", "a|b", "|"}},
		{"ab|cd", []string{"ab", "cd"}, []string{"abd", "acd", "a", "abcd"}},
		{"a|b|c", []string{"a", "b", "c"}, []string{"d", "ab"}},
		// An empty part fits the empty text alone.
		{"|", []string{""}, []string{"a", "|"}},
		{"||", []string{""}, []string{"a", "|", "||"}},
		{"a|", []string{"a", ""}, []string{"b", "a|"}},
		{"|a", []string{"a", ""}, []string{"b", "|a"}},
		{"a||b", []string{"a", "b", ""}, []string{"ab", "|"}},
		{"*|x", []string{"", "x", "y", "|"}, nil},
		{"x|*", []string{"", "x", "y", "|"}, nil},
		// A part that fits the beginning, or the end, takes nothing from another one.
		{"a|ab", []string{"a", "ab"}, []string{"b"}},
		{"b*|*b", []string{"b", "ba", "ab"}, []string{"aba"}},
		{"?|??", []string{"a", "ab"}, []string{"", "abc"}},
	} {
		wantGlob(t, c.pattern, c.fits, c.not)
	}
}

// TestP602GlobBadTexts: each byte of what is no good UTF-8 is one rune, and they are all the same.
func TestP602GlobBadTexts(t *testing.T) {
	for _, c := range []struct {
		pattern   string
		fits, not []string
	}{
		{"?", []string{"\xff", "\x80", "\xc3"}, []string{"\xff\xff", "\xe2\x82"}},
		{"??", []string{"\xe2\x82", "\xc0\x80", "\xc3a"}, []string{"\xff", "\xed\xa0\x80"}},
		{"???", []string{"\xed\xa0\x80", "\xf0\x9f\x98", "\xe0\x9f\xbf"}, []string{"\xed\xa0"}},
		{"????", []string{"\xf4\x90\x80\x80", "\xf8\x88\x80\x80", "\xf0\x8f\xbf\xbf"}, nil},
		{"\xff", []string{"\xff", "\x80", "\xc3", "\ufffd"}, []string{"", "\xff\xff", "\u00ff", "?"}},
		{"\ufffd", []string{"\xff", "\x80", "\ufffd"}, []string{"", "\xef\xbf", "\ufffd\ufffd"}},
		{"\xe2\x82", []string{"\xff\xfe", "\xe2\x82", "\ufffd\ufffd", "\ufffd\x80"}, []string{"\u20ac", "\xe2"}},
		{"a\xffb*", []string{"a\x80b", "a\ufffdb\xff"}, []string{"ab", "a\xff\xffb", "a?b"}},
		{"\\\xff", []string{"\xff", "\ufffd", "\x80"}, []string{"\\\xff", "\\"}},
		{"\xff|\xc3", []string{"\xff", "\xc3", "\x80"}, []string{"\xff|\xc3", "\xff\xc3"}},
		{"*\xa9", []string{"\xa9", "\xc3\xff", "\ufffd", "\u00e9\xa9"}, []string{"\u00e9", "\u00a9"}},
		{"\u00e9", []string{"\u00e9"}, []string{"\xc3", "\xc3\xc3", "\ufffd\ufffd"}},
	} {
		wantGlob(t, c.pattern, c.fits, c.not)
	}
}

var patternSign = regexp.MustCompile(`(?s)\\.|.`)

// byPattern: what Glob answers, told by a pattern of another kind.
func byPattern(pattern, s string) bool {
	// So each byte of what is no good UTF-8 becomes a rune.
	whole := func(s string) string { return string([]rune(s)) }
	var b strings.Builder
	b.WriteString(`(?s)\A(?:`)
	for _, sign := range patternSign.FindAllString(whole(pattern), -1) {
		switch {
		case sign == "*":
			b.WriteString(".*")
		case sign == "?":
			b.WriteString(".")
		case sign == "|":
			b.WriteString("|")
		case len(sign) > 1 && sign[0] == '\\':
			b.WriteString(regexp.QuoteMeta(sign[1:]))
		default:
			b.WriteString(regexp.QuoteMeta(sign))
		}
	}
	b.WriteString(`)\z`)
	return regexp.MustCompile(b.String()).MatchString(whole(s))
}

// word: up to most of these pieces, one behind the other.
func word(r *rand.Rand, most int, pieces ...string) string {
	s := ""
	for range r.IntN(most + 1) {
		s += pieces[r.IntN(len(pieces))]
	}
	return s
}

func TestP602GlobAny(t *testing.T) {
	r := rand.New(rand.NewPCG(6, 1))
	told := [2]int{}
	for range 30000 {
		pattern := word(r, 8, "*", "*", "?", "|", `\`, "a", "a", "b", "\u00e9", "\xff", "\ufffd")
		for range 4 {
			s := word(r, 7, "a", "a", "b", "\u00e9", "\xff", "*", `\`, "|", "?")
			want := byPattern(pattern, s)
			if matcher.Glob(pattern, s) != want {
				t.Fatalf("%q %q: %v is wanted", pattern, s, want)
			}
			if want {
				told[1]++
			} else {
				told[0]++
			}
		}
	}
	if min(told[0], told[1]) < 10000 {
		t.Error("too few of one kind:", told)
	}
}

// TestP602GlobLong: long texts and patterns come to an end soon.
func TestP602GlobLong(t *testing.T) {
	a := strings.Repeat("a", 1<<16)
	wantGlob(t, strings.Repeat("a*", 1000), []string{a, a + "b"}, []string{"", a[:999]})
	wantGlob(t, strings.Repeat("a*", 1000)+"b", []string{a + "b"}, []string{a})
	wantGlob(t, strings.Repeat("*", 1<<20), []string{"", a}, nil)
	wantGlob(t, strings.Repeat("*a", 1<<16), []string{a}, []string{a[1:], a + "b"})
	wantGlob(t, strings.Repeat("?", 1<<16), []string{a}, []string{a[1:], a + "a"})
	wantGlob(t, strings.Repeat("*?", 1<<16), []string{a, a + "b"}, []string{a[1:]})
	wantGlob(t, strings.Repeat("|", 1<<20), []string{""}, []string{a})
	wantGlob(t, strings.Repeat(`\`, 1<<20), []string{strings.Repeat(`\`, 1<<19)}, []string{a})
	wantGlob(t, "*b*|"+a, []string{a, a + "b" + a}, []string{a[1:]})
	wantGlob(t, "x|*"+strings.Repeat("a?", 50)+"b", []string{a + "b"}, []string{a})
}
