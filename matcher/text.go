package matcher

import (
	"strconv"
	"strings"

	"icehouse/api"
	"icehouse/label"
)

// signs: how each Op is written.
var signs = [...]string{Is: "=", Not: "!=", Like: "=~", Unlike: "!~"}

const (
	wordHas    = "has"
	wordNewest = "newest"
)

// numberWord: a word that a number stands behind: where the query has it, and
// what it is without the word.
type numberWord struct {
	name    string
	in      *int
	without int
}

// numberWords: in the order in which they stand.
func numberWords(q *Query) []numberWord {
	return []numberWord{
		{name: "from", in: &q.From},
		{name: "to", in: &q.To, without: api.MaxTime},
		{name: "limit", in: &q.Limit},
	}
}

// Print: the query as a text.
func Print(q Query) string {
	if !Right(q) {
		return ""
	}
	var matches []string
	for _, m := range q.Matches {
		matches = append(matches, m.Name+signs[m.Op]+label.Quote(m.Value))
	}
	words := []string{"{" + strings.Join(matches, ", ") + "}"}
	if q.Has != "" {
		words = append(words, wordHas, label.Quote(q.Has))
	}
	for _, w := range numberWords(&q) {
		if *w.in != w.without {
			words = append(words, w.name, strconv.Itoa(*w.in))
		}
	}
	if q.Newest {
		words = append(words, wordNewest)
	}
	return strings.Join(words, " ")
}

// text: what is left of one that is read.
type text struct {
	rest string
}

// blanks: all that stand there go. It tells whether there was one.
func (t *text) blanks() bool {
	rest := strings.TrimLeft(t.rest, " ")
	some := len(rest) < len(t.rest)
	t.rest = rest
	return some
}

// take: what goes, if it stands there.
func (t *text) take(what string) bool {
	rest, ok := strings.CutPrefix(t.rest, what)
	t.rest = rest
	return ok
}

// word: it goes, if it stands there, behind a blank; else the blanks stay, for
// the words that may stand there in its place.
func (t *text) word(name string) bool {
	behind := *t
	if !behind.blanks() || !behind.take(name) {
		return false
	}
	*t = behind
	return true
}

// quoted: a quoted text goes.
func (t *text) quoted(to *string) bool {
	s, n, ok := label.Unquote(t.rest)
	*to, t.rest = s, t.rest[n:]
	return ok
}

// number: one without a needless 0 goes.
func (t *text) number(to *int) bool {
	behind := strings.TrimLeft(t.rest, "0123456789")
	digits := t.rest[:len(t.rest)-len(behind)]
	n, err := strconv.Atoi(digits)
	*to, t.rest = n, behind
	return err == nil && strconv.Itoa(n) == digits
}

// name: what stands ahead of a blank, or of a sign. Whether it may be one is not asked here.
func (t *text) name(to *string) bool {
	n := strings.IndexAny(t.rest, " =!")
	if n < 0 {
		return false
	}
	// A copy: a piece would keep the whole text.
	*to, t.rest = strings.Clone(t.rest[:n]), t.rest[n:]
	return true
}

// op: a sign goes. They are tried from the last one on: = is how =~ begins.
func (t *text) op(to *int) bool {
	for op := Unlike; op >= Is; op-- {
		if t.take(signs[op]) {
			*to = op
			return true
		}
	}
	return false
}

// match: a Match goes, and the blanks around it.
func (t *text) match(m *Match) bool {
	t.blanks()
	if !t.name(&m.Name) {
		return false
	}
	t.blanks()
	if !t.op(&m.Op) {
		return false
	}
	t.blanks()
	ok := t.quoted(&m.Value)
	t.blanks()
	return ok
}

// matches: all go, with what is around and between them. A long list ends at the
// first Match that is too many.
func (t *text) matches(to *[]Match) bool {
	t.blanks()
	if !t.take("{") {
		return false
	}
	t.blanks()
	if t.take("}") {
		return true
	}
	for range mostMatches {
		var m Match
		if !t.match(&m) {
			return false
		}
		*to = append(*to, m)
		if t.take("}") {
			return true
		}
		if !t.take(",") {
			return false
		}
	}
	return false
}

// words: those that stand there go, each with what stands behind it.
func (t *text) words(q *Query) bool {
	if t.word(wordHas) && !(t.blanks() && t.quoted(&q.Has)) {
		return false
	}
	for _, w := range numberWords(q) {
		*w.in = w.without
		if t.word(w.name) && !(t.blanks() && t.number(w.in)) {
			return false
		}
	}
	q.Newest = t.word(wordNewest)
	return true
}

// Parse: the query that s is the text of.
func Parse(s string) (Query, api.Errno) {
	var q Query
	t := text{rest: s}
	ok := t.matches(&q.Matches) && t.words(&q)
	t.blanks()
	if !ok || t.rest != "" || !Right(q) {
		return Query{}, api.ErrQuery
	}
	return q, api.OK
}
