package matcher_test

import (
	"math/rand/v2"
	"reflect"
	"regexp"
	"slices"
	"strconv"
	"strings"
	"testing"
	"unicode/utf8"

	"icehouse/api"
	"icehouse/label"
	"icehouse/matcher"
)

// same: whether they are one query; a list without elements may be nil or empty.
func same(a, b matcher.Query) bool {
	one := slices.Equal(a.Matches, b.Matches)
	a.Matches, b.Matches = nil, nil
	return one && reflect.DeepEqual(a, b)
}

func wantQuery(t *testing.T, s string, want matcher.Query) {
	t.Helper()
	if q, e := matcher.Parse(s); e != api.OK || !same(q, want) {
		t.Errorf("%q: %+v %d, want %+v", s, q, e, want)
	}
}

func wantNoQuery(t *testing.T, s string) {
	t.Helper()
	if q, e := matcher.Parse(s); e != api.ErrQuery || !same(q, matcher.Query{}) {
		t.Errorf("%q: %+v %d", s[:min(len(s), 200)], q, e)
	}
}

// P603

func TestP603Print(t *testing.T) {
	const most = api.MaxTime
	x := []matcher.Match{match("app", matcher.Is, "x")}
	for _, c := range []struct {
		q    matcher.Query
		want string
	}{
		{matcher.Query{Matches: x, To: 9, Newest: true}, `{app="x"} to 9 newest`},
		{matcher.Query{To: most}, `{}`},
		{matcher.Query{}, `{} to 0`},
		{matcher.Query{Matches: x, To: most}, `{app="x"}`},
		{matcher.Query{Matches: []matcher.Match{match("a", matcher.Is, "v"), match("b", matcher.Not, "v"), match("c", matcher.Like, "v"), match("d", matcher.Unlike, "v")}, To: most}, `{a="v", b!="v", c=~"v", d!~"v"}`},
		// Matches stand as they do in the query, also of one name, or the same again.
		{matcher.Query{Matches: []matcher.Match{match("b", matcher.Is, ""), match("a", matcher.Is, "1"), match("b", matcher.Is, "")}, To: most}, `{b="", a="1", b=""}`},
		{matcher.Query{Matches: []matcher.Match{match("a", matcher.Like, "\"\\\n\t x*|?")}, To: most}, `{a=~"\"\\\n\u{9} x*|?"}`},
		{matcher.Query{Has: "u", To: most}, `{} has "u"`},
		{matcher.Query{Has: "\"\\\n\x7f\u00e9 ", To: most}, "{} has \"\\\"\\\\\\n\\u{7f}\u00e9 \""},
		{matcher.Query{From: 1, To: most}, `{} from 1`},
		{matcher.Query{From: most, To: most}, `{} from 1099511627776`},
		{matcher.Query{To: most - 1}, `{} to 1099511627775`},
		{matcher.Query{To: most, Limit: 1}, `{} limit 1`},
		{matcher.Query{To: most, Limit: 10000}, `{} limit 10000`},
		{matcher.Query{To: most, Newest: true}, `{} newest`},
		{matcher.Query{Matches: x, Has: "u", From: 2, To: 30, Limit: 4, Newest: true}, `{app="x"} has "u" from 2 to 30 limit 4 newest`},
	} {
		if s := matcher.Print(c.q); s != c.want {
			t.Errorf("%+v: %s, want %s", c.q, s, c.want)
		}
	}
	for _, q := range wrongs() {
		if s := matcher.Print(q); s != "" {
			t.Errorf("%+v: %s", q, s)
		}
	}
}

// TestP603ParseMatches: each sign, and blanks wherever they may stand.
func TestP603ParseMatches(t *testing.T) {
	two := matcher.Query{To: api.MaxTime, Matches: []matcher.Match{match("a", matcher.Is, "x"), match("b", matcher.Unlike, "y")}}
	for _, s := range []string{
		`{a="x", b!~"y"}`, `{a="x",b!~"y"}`, `{a="x"   ,   b!~"y"}`, `{a="x" ,b!~"y"}`,
		`   {a="x", b!~"y"}`, `{a="x", b!~"y"}   `, `{   a="x", b!~"y"}`, `{a="x", b!~"y"   }`,
		`{a   ="x", b   !~"y"}`, `{a=   "x", b!~   "y"}`, `{a   =   "x", b !~ "y"}`,
		`  {  a  =  "x"  ,  b  !~  "y"  }  `,
	} {
		wantQuery(t, s, two)
	}
	for _, s := range []string{`{}`, ` {}`, `{} `, `{ }`, `  {  }  `} {
		wantQuery(t, s, matcher.Query{To: api.MaxTime})
	}
	for i, sign := range []string{"=", "!=", "=~", "!~"} {
		for _, value := range []string{"", "x", "~", "=", " ", "=~", "\"\\\n", "}", ", b=", "\x00\u00e9"} {
			q := matcher.Query{To: api.MaxTime, Matches: []matcher.Match{match("a", i+1, value)}}
			wantQuery(t, "{a"+sign+label.Quote(value)+"}", q)
			wantQuery(t, "{a "+sign+"  "+label.Quote(value)+" }", q)
		}
	}
	// One name, or the same match, more than once; their order stays.
	wantQuery(t, `{b="1", a="1", b="1", b!="2"}`, matcher.Query{To: api.MaxTime, Matches: []matcher.Match{
		match("b", matcher.Is, "1"), match("a", matcher.Is, "1"), match("b", matcher.Is, "1"), match("b", matcher.Not, "2"),
	}})
}

func TestP603ParseNoMatches(t *testing.T) {
	for _, s := range []string{
		``, ` `, `{`, `}`, `}{`, `{{}`, `{}}`, `{{}}`, `({})`, `a="x"`, `{a="x"`, `a="x"}`, `;{}`, `x{}`, `{};`, `{}{}`, `{} {}`, `{} {a="x"}`,
		`{,}`, `{a="x",}`, `{a="x", }`, `{,a="x"}`, `{a="x",,b="y"}`, `{a="x", ,b="y"}`, `{a="x" b="y"}`, `{a="x"b="y"}`, `{a="x";b="y"}`,
		`{a}`, `{a=}`, `{="x"}`, `{a"x"}`, `{"a"="x"}`, `{a=x}`, `{a='x'}`, `{a="x}`, `{a=x"}`, `{=}`, `{a="x", b}`, `{a="x", b=}`,
		// Signs that there are not, and blanks within one.
		`{a=="x"}`, `{a~"x"}`, `{a!"x"}`, `{a~="x"}`, `{a=!"x"}`, `{a!=="x"}`, `{a=~~"x"}`, `{a!!="x"}`, `{a:"x"}`, `{a<"x"}`, `{a!=~"x"}`,
		`{a= ="x"}`, `{a= ~"x"}`, `{a! ="x"}`, `{a! ~"x"}`, `{a= !"x"}`,
		// Names that may not be.
		`{0="x"}`, `{a-b="x"}`, `{a b="x"}`, `{a{="x"}`, `{a,="x"}`, "{\u00e9=\"x\"}", "{a\x00=\"x\"}", "{a\xff=\"x\"}", `{{a="x"}`, `{ ="x"}`,
		// Texts that are not written so.
		`{a="\u{a}"}`, `{a="\u{09}"}`, `{a="\t"}`, `{a="\u{41}"}`, "{a=\"\t\"}", "{a=\"\n\"}", "{a=\"\x7f\"}", `{a="\*"}`, `{a="\"}`, `{a="x""}`, `{a=""x}`,
		// Blanks are bytes 32 alone.
		"\t{}", "{}\t", "{}\n", "\n{}", "{\t}", "{\ta=\"x\"}", "{a\t=\"x\"}", "{a=\t\"x\"}", "{a=\"x\"\t}", "{a=\"x\",\tb=\"y\"}", "{a=\"x\",\u00a0b=\"y\"}", "\u3000{}", "{}\x00", "{}\r\n", "\ufeff{}",
	} {
		wantNoQuery(t, s)
	}
	for _, s := range badTexts() {
		for _, s := range []string{`{a="` + s + `"}`, `{}` + s, s + `{}`, `{a` + s + `="x"}`, `{} has "` + s + `"`, `{} ` + s, `{} newest` + s} {
			wantNoQuery(t, s)
		}
	}
}

// TestP603ParseWords: each word, alone and with others, with blanks between.
func TestP603ParseWords(t *testing.T) {
	const most = api.MaxTime
	for s, want := range map[string]matcher.Query{
		`{} has "u"`:                {Has: "u", To: most},
		`{} has "from 5"`:           {Has: "from 5", To: most},
		`{} has "\"\\\n\u{0}"`:      {Has: "\"\\\n\x00", To: most},
		`{} from 5`:                 {From: 5, To: most},
		`{} from 1099511627776`:     {From: most, To: most},
		`{} to 5`:                   {To: 5},
		`{} to 0`:                   {},
		`{} from 5 to 5`:            {From: 5, To: 5},
		`{} from 5 to 6`:            {From: 5, To: 6},
		`{} limit 5`:                {To: most, Limit: 5},
		`{} limit 10000`:            {To: most, Limit: 10000},
		`{} newest`:                 {To: most, Newest: true},
		`{} has "u" newest`:         {Has: "u", To: most, Newest: true},
		`{} from 100 limit 10`:      {From: 100, To: most, Limit: 10},
		`{a!="x"} to 9 newest`:      {Matches: []matcher.Match{match("a", matcher.Not, "x")}, To: 9, Newest: true},
		`{} has "u" from 1 to 2`:    {Has: "u", From: 1, To: 2},
		`{}   has   "u"   newest  `: {Has: "u", To: most, Newest: true},
		`  {}  from  1  to  2  `:    {From: 1, To: 2},
		`{ }  limit   5   `:         {To: most, Limit: 5},
		`{} newest    `:             {To: most, Newest: true},
		// What holds without the word.
		`{} has ""`:           {To: most},
		`{} from 0`:           {To: most},
		`{} to 1099511627776`: {To: most},
		`{} limit 0`:          {To: most},
		`{} has "" from 0 to 1099511627776 limit 0`:        {To: most},
		`{} has "" from 0 to 1099511627776 limit 0 newest`: {To: most, Newest: true},
		`{} has "" to 7`: {To: 7},
	} {
		wantQuery(t, s, want)
	}
}

func TestP603ParseNoWords(t *testing.T) {
	for _, s := range []string{
		// No blank between.
		`{}has "u"`, `{} has"u"`, `{} has "u"newest`, `{} has "u"from 5`, `{}from 5`, `{} from5`, `{} from 5to 6`, `{} from 5 to6`, `{} to 6limit 5`, `{} limit5`, `{} limit 5newest`, `{}newest`, `{}to 5`, `{}limit 5`,
		// Twice.
		`{} has "u" has "u"`, `{} has "" has "u"`, `{} from 5 from 5`, `{} from 0 from 5`, `{} to 5 to 5`, `{} limit 5 limit 5`, `{} limit 0 limit 5`, `{} newest newest`,
		// In another order.
		`{} from 5 has "u"`, `{} to 5 has "u"`, `{} to 6 from 5`, `{} limit 5 from 5`, `{} limit 5 to 5`, `{} limit 5 has "u"`, `{} newest has "u"`, `{} newest from 5`, `{} newest to 5`, `{} newest limit 5`, `from 5 {}`, `newest {}`,
		// Other words, or none.
		`{} x`, `{} Newest`, `{} newestx`, `{} newes`, `{} newest 5`, `{} newest "u"`, `{} HAS "u"`, `{} hasx "u"`, `{} From 5`, `{} fro 5`, `{} fromto 5`, `{} too 5`, `{} today 5`, `{} limits 5`, `{} oldest`, `{} 5`, `{} "u"`, `{}, newest`, `{}; to 5`, `{} from=5`, `{} from: 5`, `{} and to 5`,
		// Nothing behind a word, or another thing.
		`{} has`, `{} has `, `{} from`, `{} from `, `{} to`, `{} limit `, `{} has newest`, `{} has u`, `{} has 5`, `{} has 'u'`, `{} has "u`, `{} has u"`, `{} has "u""`, `{} has "u" "u"`, `{} from to 5`, `{} from x`, `{} from "5"`, `{} from 5 6`, `{} limit newest`,
		`{} has "\u{41}"`, `{} has "\t"`, "{} has \"\t\"",
		// Numbers that are not written so.
		`{} from 00`, `{} from 05`, `{} to 05`, `{} to 00`, `{} limit 00`, `{} limit 01`, `{} from +5`, `{} from -5`, `{} from -0`, `{} to +5`, `{} limit -1`, `{} from 5.0`, `{} from 5.`, `{} from .5`, `{} from 1e3`, `{} from 0x5`, `{} from 1_000`, `{} from 1,000`, "{} from \u0665", "{} from \uff15", `{} from - 5`, `{} from 5x`, `{} from x5`,
		// Numbers past the edges.
		`{} from 1099511627777`, `{} to 1099511627777`, `{} from 1099511627777 to 1099511627777`, `{} limit 10001`, `{} from 6 to 5`, `{} from 1 to 0`,
		`{} to 9223372036854775807`, `{} to 9223372036854775808`, `{} to 18446744073709551615`, `{} to 18446744073709551616`, `{} to 18446744073709551621`, `{} limit 18446744073709551617`, `{} from 18446744073709551616 to 5`, `{} to 99999999999999999999999999999999`,
		// More behind it.
		`{} newest x`, `{} newest }`, `{} to 5 x`, `{} to 5,`, `{} to 5}`, `{} has "u" x`, `{} limit 5;`,
		// Other blanks.
		"{}\tnewest", "{} has\t\"u\"", "{} from\n5", "{} from 5\nto 6", "{} newest\n", "{} newest\x00", "{} from\u00a05",
	} {
		wantNoQuery(t, s)
	}
}

// TestP603ParseCut: a text that is cut off is none, but where it still says something whole.
func TestP603ParseCut(t *testing.T) {
	whole := `{ab="x", c!~"y"} has "u v" from 20 to 300 limit 40 newest`
	good := []string{
		`{ab="x", c!~"y"}`, `{ab="x", c!~"y"} has "u v"`, `{ab="x", c!~"y"} has "u v" from 2`, `{ab="x", c!~"y"} has "u v" from 20`,
		`{ab="x", c!~"y"} has "u v" from 20 to 30`, `{ab="x", c!~"y"} has "u v" from 20 to 300`,
		`{ab="x", c!~"y"} has "u v" from 20 to 300 limit 4`, `{ab="x", c!~"y"} has "u v" from 20 to 300 limit 40`,
	}
	for n := range whole {
		if cut := whole[:n]; !slices.Contains(good, strings.TrimRight(cut, " ")) {
			wantNoQuery(t, cut)
		}
	}
	for _, s := range good {
		if q, e := matcher.Parse(s + " "); e != api.OK || matcher.Print(q) != s {
			t.Errorf("%s: %+v %d", s, q, e)
		}
	}
	for n := 1; n < len(whole); n++ {
		wantNoQuery(t, whole[n:])
	}
}

// writtenAnyhow: the query as a text, whether it may be or not (but for its Ops).
func writtenAnyhow(q matcher.Query) string {
	var l []string
	for _, m := range q.Matches {
		l = append(l, m.Name+map[int]string{1: "=", 2: "!=", 3: "=~", 4: "!~"}[m.Op]+label.Quote(m.Value))
	}
	s := "{" + strings.Join(l, ", ") + "} has " + label.Quote(q.Has)
	s += " from " + strconv.Itoa(q.From) + " to " + strconv.Itoa(q.To) + " limit " + strconv.Itoa(q.Limit)
	if q.Newest {
		s += " newest"
	}
	return s
}

func TestP603ParseBounds(t *testing.T) {
	for _, q := range edges() {
		wantQuery(t, writtenAnyhow(q), q)
	}
	for _, q := range wrongs() {
		// As a text such a name is another one, with blanks around.
		blank := slices.ContainsFunc(q.Matches, func(m matcher.Match) bool { return strings.Trim(m.Name, " ") != m.Name })
		if !blank {
			wantNoQuery(t, writtenAnyhow(q))
		}
	}
}

func TestP603ParseLong(t *testing.T) {
	const many = 1 << 20
	blanks := strings.Repeat(" ", many)
	wantQuery(t, blanks+"{"+blanks+"}"+blanks+"newest"+blanks, matcher.Query{To: api.MaxTime, Newest: true})
	for _, s := range []string{`{`, `{a`, `{a=`, `{a="`, `{a="\\`, `{a=" `, `{} from 5`, `{} from 0`, `{} `, `{} newest `, ` `, `}`, "\xff"} {
		wantNoQuery(t, s+strings.Repeat(s[len(s)-1:], many)+`x`)
	}
	wantNoQuery(t, `{`+strings.Repeat(`a="x", `, many/8)+`a="x"}`)
	wantNoQuery(t, `{}`+strings.Repeat(` newest`, many/8))
	wantNoQuery(t, strings.Repeat(`{}`, many/8))
	wantNoQuery(t, `{} has "`+strings.Repeat("u", many)+`"`)
}

// What the chapter says of texts, told by patterns.
const (
	quotedForm = `"(?:[^"\\\x00-\x1f\x7f]|\\["\\n]|\\u\{(?:[0-9b-f]|1[0-9a-f]|7f)\})*"`
	matchForm  = `([a-zA-Z_][a-zA-Z0-9_]*) *(=~|=|!=|!~) *(` + quotedForm + `)`
	numberForm = `(0|[1-9][0-9]*)`
)

var (
	matchAnyhow = regexp.MustCompile(matchForm)
	queryWhole  = regexp.MustCompile(`^ *(\{ *(?:` + matchForm + `(?: *, *` + matchForm + `)*)? *\})` +
		`(?: +has +(` + quotedForm + `))?(?: +from +` + numberForm + `)?(?: +to +` + numberForm + `)?(?: +limit +` + numberForm + `)?( +newest)? *$`)
)

// toldByForm: what Parse answers, told by the patterns.
func toldByForm(s string) (matcher.Query, api.Errno) {
	found := queryWhole.FindStringSubmatch(s)
	if found == nil || !utf8.ValidString(s) {
		return matcher.Query{}, api.ErrQuery
	}
	q := matcher.Query{To: api.MaxTime, Newest: found[12] != ""}
	for _, m := range matchAnyhow.FindAllStringSubmatch(found[1], -1) {
		value, _, _ := label.Unquote(m[3])
		q.Matches = append(q.Matches, match(m[1], map[string]int{"=": 1, "!=": 2, "=~": 3, "!~": 4}[m[2]], value))
	}
	q.Has, _, _ = label.Unquote(found[8])
	for i, to := range []*int{&q.From, &q.To, &q.Limit} {
		if digits := found[9+i]; digits != "" {
			n, err := strconv.Atoi(digits)
			if err != nil {
				return matcher.Query{}, api.ErrQuery
			}
			*to = n
		}
	}
	if !matcher.Right(q) {
		return matcher.Query{}, api.ErrQuery
	}
	return q, api.OK
}

// anyQuery: by chance, one that may be.
func anyQuery(r *rand.Rand) matcher.Query {
	signs := []string{"a", "b", " ", `"`, `\`, "\n", "\x00", "{", "}", "=", "~", "!", ",", "*", "|", "\u00e9", "\ufffd"}
	q := matcher.Query{To: api.MaxTime, Newest: r.IntN(2) == 0}
	for range r.IntN(4) * r.IntN(3) {
		q.Matches = append(q.Matches, match(string("abXYZ_"[r.IntN(6)])+word(r, 2, "a", "_", "0"), 1+r.IntN(4), word(r, 4, signs...)))
	}
	if r.IntN(2) == 0 {
		q.Has = word(r, 6, signs...)
	}
	if r.IntN(2) == 0 {
		q.To = r.IntN(30)
	}
	if r.IntN(2) == 0 {
		q.From = r.IntN(q.To + 1)
	}
	if r.IntN(2) == 0 {
		q.Limit = r.IntN(10001)
	}
	return q
}

// TestP603ParseAny: texts with something changed at any place.
func TestP603ParseAny(t *testing.T) {
	r := rand.New(rand.NewPCG(6, 6))
	pieces := []string{"", "", " ", " ", "  ", "{", "}", ",", "=", "!", "~", `"`, `\`, "a", "0", "1", "\n", "\xff", `b="y"`, `, c!~"z"`, " newest", " to 7", " from 3", ` has ""`, " limit 0"}
	told := [2]int{}
	for range 60000 {
		s := matcher.Print(anyQuery(r))
		for range r.IntN(4) {
			at := r.IntN(len(s) + 1)
			to := at + r.IntN(min(2, len(s)-at+1))
			s = s[:at] + pieces[r.IntN(len(pieces))] + s[to:]
		}
		want, wantE := toldByForm(s)
		q, e := matcher.Parse(s)
		if e != wantE || !same(q, want) {
			t.Fatalf("%q: %+v %d, want %+v %d", s, q, e, want, wantE)
		}
		if e == api.OK {
			told[1]++
		} else {
			told[0]++
		}
	}
	if min(told[0], told[1]) < 10000 {
		t.Error("too few of one kind:", told)
	}
}

// P605

func TestP605ThereAndBack(t *testing.T) {
	r := rand.New(rand.NewPCG(6, 7))
	l := edges()
	for range 20000 {
		l = append(l, anyQuery(r))
	}
	for _, q := range l {
		s := matcher.Print(q)
		wantQuery(t, s, q)
		wantQuery(t, "  "+s+"  ", q)
		// What is read of any text that says the same is printed as this one.
		back, e := matcher.Parse(writtenAnyhow(q))
		if e != api.OK || matcher.Print(back) != s {
			t.Fatalf("%s: %+v %d", s, back, e)
		}
	}
}
