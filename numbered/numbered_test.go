package numbered_test

import (
	"math"
	"slices"
	"strings"
	"testing"

	"icehouse/numbered"
)

func TestNames(t *testing.T) {
	for _, c := range []struct {
		beginning string
		digits, n int
		want      string
	}{
		{"a-", 3, 0, "a-000"}, {"a-", 3, 7, "a-007"}, {"a-", 3, 42, "a-042"}, {"a-", 3, 999, "a-999"},
		{"", 1, 9, "9"}, {"9", 2, 9, "909"}, {"x/", 18, 1 << 40, "x/000001099511627776"}, {"x/", 18, 999999999999999999, "x/999999999999999999"},
	} {
		names := numbered.Names{Beginning: c.beginning, Digits: c.digits}
		if got := names.Of(c.n); got != c.want {
			t.Errorf("%d: %q, want %q", c.n, got, c.want)
		}
		if n, some := names.Number(c.want); n != c.n || !some {
			t.Errorf("%q: %d %v, want %d", c.want, n, some, c.n)
		}
	}
}

func TestNoNumbers(t *testing.T) {
	names := numbered.Names{Beginning: "a-", Digits: 3}
	for _, n := range []int{math.MinInt, -1000, -99, -1, 1000, 1001, math.MaxInt} {
		if got := names.Of(n); got != "" {
			t.Errorf("%d: %q", n, got)
		}
	}
}

func TestOtherNames(t *testing.T) {
	names := numbered.Names{Beginning: "a-", Digits: 3}
	others := []string{"", "a", "a-", "a-00", "a-0000", "b-001", "001", " a-001", "a-001 ", "A-001", "a-+01", "a--01", "a-0x1", "a-1e1", "a-0_1", "a-١١", "a-００１", "a-a-001", "a-00\x00"}
	for _, name := range others {
		if n, some := names.Number(name); n != 0 || some {
			t.Errorf("%q: %d %v", name, n, some)
		}
	}
	// More digits than any number has.
	huge := numbered.Names{Beginning: "a-", Digits: 20}
	if n, some := huge.Number("a-" + strings.Repeat("9", 20)); n != 0 || some {
		t.Error(n, some)
	}
	list := slices.Concat([]string{"a-007"}, others, []string{"a-010", "a-001", "a-007"})
	if got := names.In(list); !slices.Equal(got, []int{7, 10, 1, 7}) {
		t.Error(got)
	}
	if got := names.In(nil); len(got) != 0 {
		t.Error(got)
	}
}
