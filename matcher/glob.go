package matcher

// A sign of a pattern is the rune that it fits, or one of these, which no text has.
const (
	oneRune  rune = -1
	anyRunes rune = -2
)

// signOf: what a rune without a \ ahead of it says in a pattern.
func signOf(r rune) rune {
	switch r {
	case '?':
		return oneRune
	case '*':
		return anyRunes
	}
	return r
}

// parts: the pattern's parts, of signs each. A \ takes any rune behind it along,
// a | too: it is itself only where no rune is left at all.
func parts(pattern string) [][]rune {
	var all [][]rune
	var part []rune
	escaped := false
	for _, r := range pattern {
		switch {
		case escaped:
			part, escaped = append(part, r), false
		case r == '\\':
			escaped = true
		case r == '|':
			all, part = append(all, part), nil
		default:
			part = append(part, signOf(r))
		}
	}
	if escaped {
		part = append(part, '\\')
	}
	return append(all, part)
}

// fits: whether the part fits all of s. Each * takes as few runes as it can, and
// only the last one that was met is ever given more: to give an earlier one more
// would only leave less of s to the signs behind the last one.
func fits(part, s []rune) bool {
	const none = -1
	at, i := 0, 0
	behind, from := none, 0 // what stands behind the last *, and where in s it is tried
	for i < len(s) {
		switch {
		case at < len(part) && part[at] == anyRunes:
			at++
			behind, from = at, i
		case at < len(part) && (part[at] == oneRune || part[at] == s[i]):
			at++
			i++
		case behind == none:
			return false
		default:
			from++
			at, i = behind, from
		}
	}
	for at < len(part) && part[at] == anyRunes {
		at++
	}
	return at == len(part)
}

// Glob: whether some part of the pattern fits all of s.
func Glob(pattern, s string) bool {
	runes := []rune(s)
	for _, part := range parts(pattern) {
		if fits(part, runes) {
			return true
		}
	}
	return false
}
