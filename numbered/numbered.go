// Package numbered gives names to numbers: a beginning, and always as many
// digits, so that the names rise as the numbers do.
package numbered

import (
	"strconv"
	"strings"
)

// Names: of one beginning, and so many digits.
type Names struct {
	Beginning string
	Digits    int
}

// Of: the number's name; "", if it is below 0 or has more digits.
func (s Names) Of(n int) string {
	digits := strconv.Itoa(n)
	if n < 0 || len(digits) > s.Digits {
		return ""
	}
	return s.Beginning + strings.Repeat("0", s.Digits-len(digits)) + digits
}

// Number: the number that has the name; false of another name.
func (s Names) Number(name string) (int, bool) {
	digits, some := strings.CutPrefix(name, s.Beginning)
	// Atoi alone would take signs, too.
	if !some || len(digits) != s.Digits || strings.Trim(digits, "0123456789") != "" {
		return 0, false
	}
	n, err := strconv.Atoi(digits)
	if err != nil {
		return 0, false
	}
	return n, true
}

// In: the numbers that have one of these names, as the names stand.
func (s Names) In(names []string) []int {
	var numbers []int
	for _, name := range names {
		if n, some := s.Number(name); some {
			numbers = append(numbers, n)
		}
	}
	return numbers
}
