package label_test

import (
	"math/rand/v2"
	"regexp"
	"slices"
	"strings"
	"testing"
	"unicode/utf8"

	"icehouse/api"
	"icehouse/label"
)

// What the chapter says of texts, told by patterns.
const (
	quotedForm = `"(?:[^"\\\x00-\x1f\x7f]|\\["\\n]|\\u\{(?:[0-9b-f]|1[0-9a-f]|7f)\})*"`
	pairForm   = `([a-zA-Z_][a-zA-Z0-9_]*) *= *(` + quotedForm + `)`
)

var (
	quotedAhead = regexp.MustCompile(`^` + quotedForm)
	pairAnyhow  = regexp.MustCompile(pairForm)
	textWhole   = regexp.MustCompile(`^ *\{ *` + pairForm + `(?: *, *` + pairForm + `)* *\} *$`)
)

// P203

func TestP203Quote(t *testing.T) {
	for s, want := range map[string]string{
		"":                     `""`,
		"a":                    `"a"`,
		"\t":                   `"\u{9}"`,
		"\n":                   `"\n"`,
		"\r":                   `"\u{d}"`,
		"\x00":                 `"\u{0}"`,
		"\x0f\x10\x1f\x7f":     `"\u{f}\u{10}\u{1f}\u{7f}"`,
		"\x1e\x7e":             `"\u{1e}~"`,
		`"`:                    `"\""`,
		`\`:                    `"\\"`,
		`\n`:                   `"\\n"`,
		"'/ {}=,":              `"'/ {}=,"`,
		"\u0080\u0085\u00a0":   "\"\u0080\u0085\u00a0\"",
		"\u2028\ufeff\ufffd":   "\"\u2028\ufeff\ufffd\"",
		"\U0001f600\U0010ffff": "\"\U0001f600\U0010ffff\"",
		"a\nb\"c\\d\x01e":      `"a\nb\"c\\d\u{1}e"`,
	} {
		if q := label.Quote(s); q != want {
			t.Errorf("%q: %s, want %s", s, q, want)
		}
	}
	for _, s := range badTexts {
		if q := label.Quote(s); q != "" {
			t.Errorf("%q: %s", s, q)
		}
		if q := label.Quote("good " + s + " good"); q != "" {
			t.Errorf("%q: %s", s, q)
		}
	}
	// It is not bound to what a value may be.
	long := strings.Repeat("x", 200000)
	if q := label.Quote(long); q != `"`+long+`"` {
		t.Error(len(q))
	}
}

func TestP203Unquote(t *testing.T) {
	for _, c := range []struct {
		s, text string
		n       int
	}{
		{`""`, "", 2},
		{`"""`, "", 2},
		{`"a"`, "a", 3},
		{`"a"b"`, "a", 3},
		{`"a", c="d"`, "a", 3},
		{"\"a\"\xff", "a", 3},
		{`"\""`, `"`, 4},
		{`"\\"`, `\`, 4},
		{`"\\""`, `\`, 4},
		{`"\n"`, "\n", 4},
		{`"\\n"`, `\n`, 5},
		{`"\u{9}"`, "\t", 7},
		{`"\u{0}\u{1f}\u{7f}"`, "\x00\x1f\x7f", 19},
		{"\"\u00e9\"", "\u00e9", 4},
		{"\"\ufffd\"", "\ufffd", 5},
		{"\"\U0001f600\" ", "\U0001f600", 6},
		{`"u{9}n}"`, "u{9}n}", 8},
	} {
		if text, n, ok := label.Unquote(c.s); text != c.text || n != c.n || !ok {
			t.Errorf("%q: %q %d %v", c.s, text, n, ok)
		}
	}
	for _, s := range []string{
		``, `"`, `a`, `a"b"`, ` "a"`, `'a'`, `"a`, `"a\"`, `"\`, `"\"`, `"\\\"`,
		"\"\n\"", "\"\t\"", "\"\x00\"", "\"\x1f\"", "\"\x7f\"", // a rune that has another form
		`"\a"`, `"\t"`, `"\r"`, `"\0"`, `"\x09"`, `"\N"`, `"\ "`, `"\'"`, "\"\\\u00e9\"", "\"\\\ufffd\"", "\"\\\xff\"", "\"\\\n\"",
		`"\u"`, `"\u{"`, `"\u{}"`, `"\u{9"`, `"\u9"`, `"\u0009"`, `"\u{9 }"`, `"\u{ 9}"`, `"\u{+9}"`, `"\u{-9}"`, `"\u{0x9}"`, `"\u{0_9}"`, `"\U{9}"`,
		`"\u{09}"`, `"\u{00}"`, `"\u{1F}"`, `"\u{7F}"`, `"\u{B}"`, // other forms of a number
		`"\u{a}"`, `"\u{20}"`, `"\u{22}"`, `"\u{5c}"`, `"\u{41}"`, `"\u{80}"`, `"\u{ff}"`, `"\u{e9}"`, `"\u{100}"`, `"\u{109}"`, `"\u{fffd}"`, `"\u{10ffff}"`, `"\u{110000}"`, `"\u{g}"`, // runes that have another form
		`"\u{10000000000000009}"`, `"\u{` + strings.Repeat("0", 1000) + `9}"`,
	} {
		if text, n, ok := label.Unquote(s); text != "" || n != 0 || ok {
			t.Errorf("%q: %q %d", s, text, n)
		}
	}
	for _, s := range badTexts {
		if text, n, ok := label.Unquote(`"` + s + `"`); text != "" || n != 0 || ok {
			t.Errorf("%q: %q %d", s, text, n)
		}
	}
}

// TestP203UnquoteAny: of any bytes it is just as the pattern says.
func TestP203UnquoteAny(t *testing.T) {
	r := rand.New(rand.NewPCG(2, 3))
	pieces := []string{`"`, `"`, `\`, `\u{`, `}`, "n", "u", "{", "0", "1", "7", "9", "a", "b", "f", "F", "\n", "\t", "\x7f", " ", "\u00e9", "\ufffd", "\xff", "\xc3"}
	found := 0
	for range 200000 {
		s := `"`
		for range r.IntN(9) {
			s += pieces[r.IntN(len(pieces))]
		}
		want := quotedAhead.FindString(s)
		if !utf8.ValidString(want) {
			want = ""
		}
		text, n, ok := label.Unquote(s)
		if n != len(want) || ok != (want != "") {
			t.Fatalf("%q: %q %d %v, want %q", s, text, n, ok, want)
		}
		if ok {
			found++
			if label.Quote(text) != want {
				t.Fatalf("%q: %q is written %q", s, text, label.Quote(text))
			}
		}
	}
	if found < 10000 {
		t.Error("too few stood there:", found)
	}
}

func TestP203Print(t *testing.T) {
	for _, c := range []struct {
		l    []api.Label
		want string
	}{
		{of("a", "x"), `{a="x"}`},
		{of("a", "x", "b", "1"), `{a="x", b="1"}`},
		{of("a", "\"\\\n\t {}=,"), `{a="\"\\\n\u{9} {}=,"}`},
		{of("A", "x", "_", "y", "a", "\u00e9"), "{A=\"x\", _=\"y\", a=\"\u00e9\"}"},
	} {
		if s := label.Print(c.l); s != c.want {
			t.Errorf("%q: %s, want %s", c.l, s, c.want)
		}
	}
	for _, l := range append(unsorted(), wrong()...) {
		if s := label.Print(l); s != "" {
			t.Errorf("%q: %s", l, s)
		}
	}
}

func TestP203Parse(t *testing.T) {
	l, e := label.Parse(`{b="1", a="x"}`)
	wantLabels(t, "the example", l, e, of("a", "x", "b", "1"), api.OK)
	for _, s := range []string{
		`{a="x", b="y"}`,
		`{b="y", a="x"}`,
		`{a="x",b="y"}`,
		`   {a="x", b="y"}`,
		`{a="x", b="y"}   `,
		`{   a="x", b="y"}`,
		`{a="x", b="y"   }`,
		`{a   ="x", b   ="y"}`,
		`{a=   "x", b=   "y"}`,
		`{a="x"   , b="y"}`,
		`{a="x",   b="y"}`,
		`  {  b  =  "y"  ,  a  =  "x"  }  `,
	} {
		l, e := label.Parse(s)
		wantLabels(t, s, l, e, of("a", "x", "b", "y"), api.OK)
	}
	l, e = label.Parse(`{a=" x ", b="{a=\"1\", \\}"}`)
	wantLabels(t, "signs in values", l, e, of("a", " x ", "b", `{a="1", \}`), api.OK)
}

func TestP203ParseNone(t *testing.T) {
	bad := []string{
		``, ` `, `{`, `}`, `{}`, `{ }`, `{,}`, `{=}`, `{a}`, `{a=}`, `{a="}`, `{a=""}`, `{="x"}`, `{"x"}`, `a="x"`,
		`{a="x"`, `a="x"}`, `{{a="x"}`, `{a="x"}}`, `{a="x"};`, `;{a="x"}`, `{a="x"}{b="y"}`, `{a="x"} {b="y"}`, `{a="x"} x`,
		`{a="x",}`, `{a="x", }`, `{,a="x"}`, `{a="x",,b="y"}`, `{a="x", ,b="y"}`, `{a="x" b="y"}`, `{a="x";b="y"}`, `{a="x"b="y"}`, `{a="x", b}`, `{a="x", b=}`,
		`{a=="x"}`, `{a= ="x"}`, `{a="x"=}`, `{a:"x"}`, `{a=x}`, `{a='x'}`, `{"a"="x"}`, `{a~="x"}`, `{a!="x"}`,
		`{a b="x"}`, `{a{="x"}`, `{0="x"}`, `{a-b="x"}`, "{\u00e9=\"x\"}", "{a\x00=\"x\"}",
		`{a="x", a="x"}`, `{a="x", a="y"}`, `{a="x", b="y", a="z"}`,
		// Blanks are bytes 32 alone, and stand nowhere else.
		"\t{a=\"x\"}", "{a=\"x\"}\n", "{\ta=\"x\"}", "{a=\"x\"\n}", "{a\t=\"x\"}", "{a=\t\"x\"}", "{a=\"x\"\t, b=\"y\"}", "{a=\"x\",\tb=\"y\"}", "{a=\"x\",\u00a0b=\"y\"}", "\u3000{a=\"x\"}", "{a=\"x\"}\x00", "{a=\"x\"}\r\n",
		`{a="\u{a}"}`, `{a="\t"}`, `{a="\u{41}"}`, "{a=\"\t\"}", "{a=\"\x7f\"}",
		`{a="` + strings.Repeat("x", 129) + `"}`,
		`{` + strings.Repeat("x", 65) + `="x"}`,
	}
	for _, s := range badTexts {
		bad = append(bad, `{a="`+s+`"}`, `{a="x"}`+s, s+`{a="x"}`, `{a`+s+`="x"}`)
	}
	for _, s := range bad {
		l, e := label.Parse(s)
		wantLabels(t, s, l, e, nil, api.ErrLabel)
	}
	whole := `{a="x", b="y"}`
	for n := range whole {
		l, e := label.Parse(whole[:n])
		wantLabels(t, whole[:n], l, e, nil, api.ErrLabel)
	}
}

func TestP203ParseBounds(t *testing.T) {
	text := func(l []api.Label) string {
		var pairs []string
		for _, x := range l {
			pairs = append(pairs, x.Name+"="+label.Quote(x.Value))
		}
		return "{" + strings.Join(pairs, ",") + "}"
	}
	for _, l := range [][]api.Label{many(16), of(strings.Repeat("x", 64), strings.Repeat("\u00e9", 64)), of("a", strings.Repeat("\x00", 128))} {
		got, e := label.Parse(text(l))
		wantLabels(t, text(l), got, e, l, api.OK)
	}
	for _, l := range [][]api.Label{many(17), slices.Repeat(of("a", "x"), 100000)} {
		got, e := label.Parse(text(l))
		wantLabels(t, "too many", got, e, nil, api.ErrLabel)
	}
	for _, s := range []string{"{", "{a", `{a="`, `{a="\\`, `{a="\u{0`, `{a="x",`, "=", " ", `"`} {
		got, e := label.Parse(s + strings.Repeat(s[len(s)-1:], 1<<20))
		wantLabels(t, "a long text", got, e, nil, api.ErrLabel)
	}
}

// byPattern: the labels of a text, told by the patterns.
func byPattern(s string) ([]api.Label, api.Errno) {
	if !utf8.ValidString(s) || !textWhole.MatchString(s) {
		return nil, api.ErrLabel
	}
	var l []api.Label
	for _, m := range pairAnyhow.FindAllStringSubmatch(s, -1) {
		value, _, _ := label.Unquote(m[2])
		l = append(l, api.Label{Name: m[1], Value: value})
	}
	return label.Sort(l)
}

// TestP203ParseAny: texts with something changed at any place.
func TestP203ParseAny(t *testing.T) {
	r := rand.New(rand.NewPCG(2, 4))
	pieces := []string{"", " ", "  ", "{", "}", ",", "=", `"`, `\`, "a", "0", "\n", "\t", "\xff", `b="y"`, `, c="z"`, "\u00e9"}
	good := 0
	for range 100000 {
		s := label.Print(random(r)[:1])
		if r.IntN(2) == 0 {
			s = `{b="y", a="x"}`
		}
		for range r.IntN(4) {
			at := r.IntN(len(s) + 1)
			to := at + r.IntN(min(2, len(s)-at+1))
			s = s[:at] + pieces[r.IntN(len(pieces))] + s[to:]
		}
		l, e := label.Parse(s)
		want, wantE := byPattern(s)
		wantLabels(t, s, l, e, want, wantE)
		if e == api.OK {
			good++
		}
	}
	if good < 10000 {
		t.Error("too few were labels:", good)
	}
}

// P205

func TestP205Texts(t *testing.T) {
	r := rand.New(rand.NewPCG(2, 5))
	behind := []string{"", `"`, `\`, "x", " ", "\xff", `, b="y"`, "\u00e9"}
	for range 20000 {
		s := word(r, r.IntN(12))
		q := label.Quote(s)
		text, n, ok := label.Unquote(q + behind[r.IntN(len(behind))])
		if text != s || n != len(q) || !ok {
			t.Fatalf("%q: %s: %q %d %v", s, q, text, n, ok)
		}
	}
	for c := rune(0); c <= utf8.MaxRune; c++ {
		if !utf8.ValidRune(c) {
			continue
		}
		q := label.Quote(string(c))
		if text, n, ok := label.Unquote(q + `"`); text != string(c) || n != len(q) || !ok {
			t.Fatalf("%U: %s: %q %d %v", c, q, text, n, ok)
		}
	}
	long := strings.Repeat("long \"\\\n\t\u00e9", 20000)
	if text, n, ok := label.Unquote(label.Quote(long) + "x"); text != long || n != len(label.Quote(long)) || !ok {
		t.Error("a long text", n, ok)
	}
}

func TestP205Labels(t *testing.T) {
	r := rand.New(rand.NewPCG(2, 8))
	lists := right()
	for range 5000 {
		lists = append(lists, random(r))
	}
	for _, l := range lists {
		s := label.Print(l)
		got, e := label.Parse(s)
		wantLabels(t, s, got, e, l, api.OK)
		b, e := label.Bytes(l)
		if e != api.OK {
			t.Fatalf("%q: %d", l, e)
		}
		got, e = label.Read(b)
		wantLabels(t, s, got, e, l, api.OK)
	}
}
