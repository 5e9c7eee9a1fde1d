package standin_test

import (
	"math"
	"strings"
	"testing"

	"icehouse/api"
	"icehouse/standin"
)

func TestNames(t *testing.T) {
	for _, c := range []struct {
		text            string
		name, beginning bool
	}{
		{"", false, true},
		{"a", true, true},
		{"!~", true, true},
		{strings.Repeat("n", api.MaxName), true, true},
		{strings.Repeat("n", api.MaxName+1), false, false},
		{"a b", false, false},
		{"ab\x7f", false, false},
		{"\x00", false, false},
		{"\xff", false, false},
		{"ä", false, false},
	} {
		if name, beginning := standin.Name(c.text), standin.Beginning(c.text); name != c.name || beginning != c.beginning {
			t.Errorf("%q: %v %v, want %v %v", c.text, name, beginning, c.name, c.beginning)
		}
	}
	for b := range 256 {
		text, want := string([]byte{'a', byte(b)}), b >= 33 && b <= 126
		if standin.Name(text) != want || standin.Beginning(text) != want {
			t.Errorf("byte %d: not %v", b, want)
		}
	}
}

func TestTheKthFails(t *testing.T) {
	for _, done := range []bool{false, true} {
		for _, k := range []int{math.MinInt, -1, 0, 1, 2, 3, 10, math.MaxInt} {
			var f standin.Failure
			f.Fail(1, !done)
			f.Fail(k, done)
			for i := 1; i <= 12; i++ {
				wantDone, wantE := true, api.OK
				if i == k {
					wantDone, wantE = done, api.ErrFault
				}
				if d, e := f.Next(); d != wantDone || e != wantE {
					t.Errorf("Fail(%d): call %d: %v %d, want %v %d", k, i, d, e, wantDone, wantE)
				}
			}
		}
	}
}
