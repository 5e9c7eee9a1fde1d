package label

import (
	"strconv"
	"strings"
	"unicode/utf8"

	"icehouse/api"
)

const (
	quote  = `"`
	escape = `\`
	// A control sign stands as its number between these two.
	numberOpens  = `\u{`
	numberCloses = `}`
	// deleteSign is the one control sign that is not below the blank.
	deleteSign = 0x7f
)

// quoted: r as it stands within a quoted text.
func quoted(r rune) string {
	switch {
	case r == '"' || r == '\\':
		return escape + string(r)
	case r == '\n':
		return `\n`
	case r < ' ' || r == deleteSign:
		return numberOpens + strconv.FormatInt(int64(r), 16) + numberCloses
	}
	return string(r)
}

// Quote: s as a quoted text.
func Quote(s string) string {
	if !utf8.ValidString(s) {
		return ""
	}
	var b strings.Builder
	b.WriteString(quote)
	for _, r := range s {
		b.WriteString(quoted(r))
	}
	b.WriteString(quote)
	return b.String()
}

// meant: the only rune that the escape at s's beginning can stand for. Whether
// it is written just so is for the caller to see: a rune that is not written
// with an escape says that there is none.
func meant(s string) rune {
	if number, ok := strings.CutPrefix(s, numberOpens); ok {
		digits, _, _ := strings.Cut(number, numberCloses)
		code, err := strconv.ParseUint(digits, 16, 8)
		if err != nil {
			return utf8.RuneError
		}
		return rune(code)
	}
	switch {
	case strings.HasPrefix(s, `\n`):
		return '\n'
	case strings.HasPrefix(s, escape+quote):
		return '"'
	case strings.HasPrefix(s, escape+escape):
		return '\\'
	}
	return utf8.RuneError
}

// Unquote: the text that stands quoted at s's beginning, and how many bytes it has there.
func Unquote(s string) (text string, n int, ok bool) {
	var b strings.Builder
	if !strings.HasPrefix(s, quote) {
		goto none
	}
	n = len(quote)
	for i, r := range s {
		if i < n {
			continue // it belongs to what was read already
		}
		if r == '"' {
			return b.String(), n + len(quote), true
		}
		if r == '\\' {
			r = meant(s[i:])
		}
		// Written again it must stand there: so no other form of a rune gets
		// by, nor a byte that is no good UTF-8.
		form := quoted(r)
		if !strings.HasPrefix(s[i:], form) {
			goto none
		}
		b.WriteRune(r)
		n += len(form)
	}
none:
	return "", 0, false
}

// Print: the labels as a text.
func Print(l []api.Label) string {
	if !Right(l) {
		return ""
	}
	var b strings.Builder
	between := ""
	b.WriteString("{")
	for _, x := range l {
		b.WriteString(between + x.Name + "=" + Quote(x.Value))
		between = ", "
	}
	b.WriteString("}")
	return b.String()
}

// sign: what stands behind that sign and the blanks around it; s, if another thing stands there.
func sign(s, what string) (rest string, ok bool) {
	rest, ok = strings.CutPrefix(strings.TrimLeft(s, " "), what)
	if !ok {
		return s, false
	}
	return strings.TrimLeft(rest, " "), true
}

// pair: the label at s's beginning, and what stands behind it. Whether it may be is not asked here.
func pair(s string) (x api.Label, rest string, ok bool) {
	name, value, _ := strings.Cut(s, "=")
	value = strings.TrimLeft(value, " ")
	text, n, ok := Unquote(value)
	if !ok {
		return api.Label{}, "", false
	}
	return api.Label{Name: strings.TrimRight(name, " "), Value: text}, value[n:], true
}

// Parse: the labels that s is the text of, rising.
func Parse(s string) ([]api.Label, api.Errno) {
	var l []api.Label
	var x api.Label
	s, ok := sign(s, "{")
	if !ok {
		goto none
	}
	for ok {
		if x, s, ok = pair(s); !ok {
			goto none
		}
		l = append(l, x)
		s, ok = sign(s, ",")
	}
	if s, ok = sign(s, "}"); !ok || s != "" {
		goto none
	}
	return Sort(l)
none:
	return nil, api.ErrLabel
}
