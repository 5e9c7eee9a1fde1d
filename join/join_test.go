package join_test

import (
	"bytes"
	"testing"

	"icehouse/api"
	"icehouse/join"
)

func want(t *testing.T, all *join.Bytes, wantB string, wantE api.Errno) {
	t.Helper()
	if b, e := all.Done(); string(b) != wantB || e != wantE {
		t.Errorf("%q %d, want %q %d", b, e, wantB, wantE)
	}
}

func TestPiecesStandInTurn(t *testing.T) {
	var all join.Bytes
	want(t, &all, "", api.OK)
	all.Add([]byte("ab"), api.OK)
	all.Add(nil, api.OK)
	all.Add([]byte("c"), api.OK)
	want(t, &all, "abc", api.OK)
}

func TestTheFirstErrorStays(t *testing.T) {
	var all join.Bytes
	all.Add([]byte("ab"), api.OK)
	all.Add(nil, api.ErrRange)
	all.Add([]byte("c"), api.OK)
	all.Add(nil, api.ErrSize)
	want(t, &all, "", api.ErrRange)
}

func TestPiecesAreCopied(t *testing.T) {
	room := []byte("abcdef")
	var all join.Bytes
	all.Add(room[:2], api.OK)
	all.Add([]byte("x"), api.OK)
	if !bytes.Equal(room, []byte("abcdef")) {
		t.Errorf("changed: %q", room)
	}
	clear(room)
	want(t, &all, "abx", api.OK)
}
