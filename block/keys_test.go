package block_test

import (
	"fmt"
	"math/rand/v2"
	"strings"
	"testing"

	"icehouse/api"
	"icehouse/block"
)

// TestExample: of the chapter.
func TestExample(t *testing.T) {
	if key := block.Data(5); key != "data/0000000000005" {
		t.Error(key)
	}
	wantID(t, block.Data(5), 5, false, true)
}

func wantID(t *testing.T, key string, id int, meta, ok bool) {
	t.Helper()
	if gotID, gotMeta, gotOK := block.ID(key); gotID != id || gotMeta != meta || gotOK != ok {
		t.Errorf("ID(%q): %d %v %v, want %d %v %v", key, gotID, gotMeta, gotOK, id, meta, ok)
	}
}

// P1602

func TestP1602Keys(t *testing.T) {
	for id, digits := range map[int]string{
		1: "0000000000001", 2: "0000000000002", 9: "0000000000009", 10: "0000000000010", 987654321: "0000987654321",
		999999999999: "0999999999999", 1000000000000: "1000000000000", most - 1: "1099511627774", most: "1099511627775",
	} {
		if got := block.Data(id); got != "data/"+digits {
			t.Errorf("Data(%d): %q", id, got)
		}
		if got := block.Meta(id); got != "meta/"+digits {
			t.Errorf("Meta(%d): %q", id, got)
		}
		wantID(t, "data/"+digits, id, false, true)
		wantID(t, "meta/"+digits, id, true, true)
	}
	for _, id := range wrongIDs {
		if data, meta := block.Data(id), block.Meta(id); data != "" || meta != "" {
			t.Errorf("%d: %q %q", id, data, meta)
		}
	}
}

// TestP1602KeysThereAndBack: of ids of all lengths.
func TestP1602KeysThereAndBack(t *testing.T) {
	r := rand.New(rand.NewPCG(16, 1))
	for range 20000 {
		id := 1 + r.IntN(most>>r.IntN(40))
		if block.Data(id) != dataKey(id) || block.Meta(id) != metaKey(id) {
			t.Fatal(id, block.Data(id), block.Meta(id))
		}
		wantID(t, block.Data(id), id, false, true)
		wantID(t, block.Meta(id), id, true, true)
	}
}

func TestP1602OtherKeys(t *testing.T) {
	digits := "0000000000005"
	others := []string{"", digits, "/" + digits, "\x00" + digits}
	for _, prefix := range []string{
		"dat/", "data", "data-", "data//", "data/data/", "Data/", "DATA/", " data/", "/data/", "xdata/", "date/", "dataa/", "data /", "data/meta/",
		"met/", "meta", "meta-", "meta//", "meta/meta/", "Meta/", "META/", " meta/", "/meta/", "metadata/", "beta/", "metaa/", "meta /", "meta/data/",
		"seg-", "wal-", "block/", "d", "m", "data\x00", "data\\", "mata/", "deta/",
	} {
		others = append(others, prefix, prefix+digits)
	}
	for _, prefix := range []string{"data/", "meta/"} {
		for _, rest := range []string{
			"", "0", "5", "000000000005", "00000000000005", "0000000000005 ", " 0000000000005", "0000000000005\x00", "0000000000005\n", "0000000000005/",
			"+000000000005", "-000000000005", "-0000000000005", "+0000000000005", " 000000000005", "000000000005 ", "000000 000005", "000000-000005", "000000+000005", "000000.000005", "00000000005.0",
			"000000_000005", "0x00000000005", "00000000000x5", "0b00000000001", "0o00000000005", "00000000005e0", "00000000000f5", "000000000000:", "000000000000/", "00000000٥٥٥", "00000000000５",
			"0000000000000", "1099511627776", "1099511627777", "2000000000000", "9999999999999", "10995116277760", "18446744073709551621", "0000000000000000000000000000000000000000005",
			strings.Repeat("0", 1<<16) + digits, digits + digits,
		} {
			others = append(others, prefix+rest)
		}
	}
	for _, key := range others {
		wantID(t, key, 0, false, false)
	}
}

// TestP1602OneByteOfAKey: another one, one less, one more.
func TestP1602OneByteOfAKey(t *testing.T) {
	want := func(key string) {
		t.Helper()
		id, meta, ok := idOf(key)
		wantID(t, key, id, meta, ok)
	}
	for _, id := range []int{1, 5, 10, 123456789, 1 << 39, most - 1, most} {
		for _, key := range []string{dataKey(id), metaKey(id)} {
			for i := range key {
				want(key[:i] + key[i+1:])
				want(key[:i])
				want(key[i+1:])
				for c := range 256 {
					want(key[:i] + string([]byte{byte(c)}) + key[i+1:])
					want(key[:i] + string([]byte{byte(c)}) + key[i:])
				}
			}
			for c := range 256 {
				want(key + string([]byte{byte(c)}))
			}
		}
	}
}

// TestP1602KeysOfAStore: each key is one that a store takes, and no two are the same.
func TestP1602KeysOfAStore(t *testing.T) {
	s := store(t)
	for _, id := range []int{1, 2, 10, 1 << 39, most} {
		for _, key := range []string{block.Data(id), block.Meta(id)} {
			if _, there := s.Look(key); there {
				t.Error("twice:", key)
			}
			wantE(t, fmt.Sprint("Put ", key), s.Put(key, nil), api.OK)
		}
	}
}
