package join_test

import (
	"bytes"
	"strings"
	"testing"

	"icehouse/api"
	"icehouse/join"
)

func want(t *testing.T, all *join.Bytes, wantB string, wantE api.Errno) {
	t.Helper()
	if b, e := all.Done(); string(b) != wantB || e != wantE {
		t.Errorf("%q %d, want %q %d", b, e, wantB, wantE)
	}
}

func TestPiecesStandInTurn(t *testing.T) {
	var all join.Bytes
	want(t, &all, "", api.OK)
	all.Add([]byte("ab"), api.OK)
	all.Add(nil, api.OK)
	all.Add([]byte("c"), api.OK)
	want(t, &all, "abc", api.OK)
}

func TestTheFirstErrorStays(t *testing.T) {
	var all join.Bytes
	all.Add([]byte("ab"), api.OK)
	all.Add(nil, api.ErrRange)
	all.Add([]byte("c"), api.OK)
	all.Add(nil, api.ErrSize)
	want(t, &all, "", api.ErrRange)
}

func TestTextsHaveTheirLength(t *testing.T) {
	var all join.Bytes
	all.AddText([]byte("ab"), api.OK)
	all.AddText(nil, api.OK)
	all.Add([]byte("c"), api.OK)
	all.AddText([]byte(strings.Repeat("x", 200)), api.OK)
	want(t, &all, "\x02ab\x00c\xc8\x01"+strings.Repeat("x", 200), api.OK)
	all.AddText([]byte("ab"), api.ErrRange)
	all.AddText([]byte("c"), api.OK)
	want(t, &all, "", api.ErrRange)
}

func TestTextsHaveALimit(t *testing.T) {
	for size, e := range map[int]api.Errno{api.MaxText: api.OK, api.MaxText + 1: api.ErrSize} {
		var all join.Bytes
		all.AddText(make([]byte, size), api.OK)
		if b, got := all.Done(); got != e || e == api.OK && len(b) != size+3 {
			t.Errorf("%d: %d bytes %d, want %d", size, len(b), got, e)
		}
	}
}

func TestPiecesAreCopied(t *testing.T) {
	room := []byte("abcdef")
	var all join.Bytes
	all.Add(room[:2], api.OK)
	all.Add([]byte("x"), api.OK)
	if !bytes.Equal(room, []byte("abcdef")) {
		t.Errorf("changed: %q", room)
	}
	clear(room)
	want(t, &all, "abx", api.OK)
}
