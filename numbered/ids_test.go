package numbered_test

import (
	"math"
	"slices"
	"testing"

	"icehouse/numbered"
)

const mostID = 1<<40 - 1

func TestIDs(t *testing.T) {
	for id, want := range map[int]string{1: "a-0000000000001", 42: "a-0000000000042", 1000000000000: "a-1000000000000", mostID: "a-1099511627775"} {
		if got := numbered.IDs("a-").Of(id); got != want || !numbered.RightID(id) {
			t.Errorf("%d: %q, want %q", id, got, want)
		}
		if got, some := numbered.IDs("a-").ID(want); got != id || !some {
			t.Errorf("%q: %d %v, want %d", want, got, some, id)
		}
	}
	if got := numbered.IDs("").Of(7); got != "0000000000007" {
		t.Error(got)
	}
}

func TestNoIDs(t *testing.T) {
	for _, n := range []int{math.MinInt, -mostID, -1, 0, mostID + 1, 9999999999999, math.MaxInt} {
		if got := numbered.IDs("a-").Of(n); got != "" || numbered.RightID(n) {
			t.Errorf("%d: %q", n, got)
		}
	}
	others := []string{"", "a-", "a-0000000000000", "a-1099511627776", "a-9999999999999", "b-0000000000001", "a-000000000001", "a-00000000000001", "a-+000000000001", "a--000000000001"}
	for _, name := range others {
		if n, some := numbered.IDs("a-").ID(name); n != 0 || some {
			t.Errorf("%q: %d %v", name, n, some)
		}
	}
	list := slices.Concat([]string{"a-1099511627775"}, others, []string{"a-0000000000003", "a-0000000000001", "a-0000000000003"})
	if got := numbered.IDs("a-").In(list); !slices.Equal(got, []int{mostID, 3, 1, 3}) {
		t.Error(got)
	}
	if got := numbered.IDs("a-").In(nil); len(got) != 0 {
		t.Error(got)
	}
}
