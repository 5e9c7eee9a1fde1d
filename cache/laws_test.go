package cache_test

import (
	"math/rand/v2"
	"slices"
	"strings"
	"testing"

	"icehouse/api"
	"icehouse/cache"
)

// history: of each key, what was put last by it, when it was used last, and
// whether it was dropped behind that. It knows of no size and of no order.
type history struct {
	now     int
	value   map[string]string
	used    map[string]int
	dropped map[string]int
}

func newHistory() *history {
	return &history{value: map[string]string{}, used: map[string]int{}, dropped: map[string]int{}}
}

// use: the key was used now.
func (h *history) use(key string) {
	h.now++
	h.used[key] = h.now
	delete(h.dropped, key)
}

// some: one of few keys, some of them long.
func some(r *rand.Rand) string {
	return []string{"", "a", "b", "c", "d", "aa", "bb", "ccc", "dddddd", "eeeeeeeeeeee"}[r.IntN(10)]
}

// worth: a value, of which no two are likely to be the same, most of them short.
func worth(r *rand.Rand, most int) string {
	b := make([]byte, r.IntN(1+r.IntN(1+most)))
	for i := range b {
		b[i] = byte(r.IntN(256))
	}
	return string(b)
}

// call: by chance one call of c, and what it means for the history.
func (h *history) call(t *testing.T, r *rand.Rand, c *cache.Cache, limit int) {
	t.Helper()
	key := some(r)
	switch r.IntN(10) {
	case 0:
		if c.Drop(key) {
			h.dropped[key] = 1
		}
	case 1:
		c.Peek(key)
	case 2, 3, 4:
		if _, ok := c.Get(key); ok {
			h.use(key)
		}
	default:
		value := worth(r, limit+2)
		if e := c.Put(key, []byte(value)); e == api.OK {
			h.value[key] = value
			h.use(key)
		} else if len(key)+len(value) <= limit {
			t.Fatal(e)
		}
	}
}

// behindEach: law is asked behind each of many calls by chance, of caches of small limits.
func behindEach(t *testing.T, seed uint64, law func(c *cache.Cache, h *history, limit int)) {
	t.Helper()
	r := rand.New(rand.NewPCG(8, seed))
	for range 200 {
		limit := 1 + r.IntN(60)
		c, h := made(t, limit), newHistory()
		for range 200 {
			h.call(t, r, c, limit)
			law(c, h, limit)
		}
	}
}

// P803

// wantBound: whether Used is the sizes of what is there, and not above the limit.
func wantBound(t *testing.T, c *cache.Cache, limit int) {
	t.Helper()
	sum := 0
	for _, key := range c.Keys() {
		value, ok := c.Peek(key)
		if !ok {
			t.Fatalf("%q is not there", key)
		}
		sum += len(key) + len(value)
	}
	if used := c.Used(); used != sum || used > limit || used < 0 {
		t.Fatalf("Used: %d, there is %d, the limit is %d", used, sum, limit)
	}
}

func TestP803Bounds(t *testing.T) {
	behindEach(t, 1, func(c *cache.Cache, _ *history, limit int) { wantBound(t, c, limit) })
}

// TestP803GreatBounds: at the greatest limit, with elements of any size.
func TestP803GreatBounds(t *testing.T) {
	r := rand.New(rand.NewPCG(8, 2))
	c := made(t, api.MaxBytes)
	for range 300 {
		key := strings.Repeat(some(r), 1+r.IntN(1000))
		c.Put(key, make([]byte, r.IntN(api.MaxBytes+api.MaxBytes/8)))
		wantBound(t, c, api.MaxBytes)
	}
	if c.Used() == 0 {
		t.Error("nothing is there")
	}
}

// P804

// wantStays: what is there was put, is what was put last, and so is, there too,
// whatever was used later and was not dropped.
func wantStays(t *testing.T, c *cache.Cache, h *history) {
	t.Helper()
	keys := c.Keys()
	there := map[string]int{}
	for i, key := range keys {
		if there[key]++; there[key] > 1 {
			t.Fatalf("%q is there twice", key)
		}
		value, put := h.value[key]
		if got, ok := c.Peek(key); !put || !ok || string(got) != value {
			t.Fatalf("%q: %q %v, but %q was put last", key, got, ok, value)
		}
		if h.dropped[key] > 0 {
			t.Fatalf("%q was dropped", key)
		}
		if i > 0 && h.used[keys[i-1]] >= h.used[key] {
			t.Fatalf("Keys: %q are not as they were used", keys)
		}
	}
	for key, used := range h.used {
		if len(keys) > 0 && used > h.used[keys[0]] && there[key] == 0 && h.dropped[key] == 0 {
			t.Fatalf("%q went, %q did not", key, keys[0])
		}
		if _, ok := c.Peek(key); ok != (there[key] > 0) {
			t.Fatalf("Keys does not tell of %q: %v", key, ok)
		}
	}
}

func TestP804Stays(t *testing.T) {
	behindEach(t, 3, func(c *cache.Cache, h *history, _ int) { wantStays(t, c, h) })
}

// TestP804TheLastStays: what was put last is there.
func TestP804TheLastStays(t *testing.T) {
	r := rand.New(rand.NewPCG(8, 4))
	for range 100 {
		limit := 12 + r.IntN(60)
		c := made(t, limit)
		for range 200 {
			key := some(r)
			value := worth(r, limit-len(key))
			wantE(t, "Put", c.Put(key, []byte(value)), api.OK)
			wantPeek(t, c, key, value)
			if keys := c.Keys(); keys[len(keys)-1] != key {
				t.Fatalf("%q is not used last: %q", key, keys)
			}
		}
	}
}

// TestP804NothingGoesInVain: where all have room none goes.
func TestP804NothingGoesInVain(t *testing.T) {
	r := rand.New(rand.NewPCG(8, 5))
	c, h := made(t, 10*(12+41)), newHistory()
	for range 5000 {
		h.call(t, r, c, 38)
		live := []string{}
		for key := range h.used {
			if h.dropped[key] == 0 {
				live = append(live, key)
			}
		}
		slices.SortFunc(live, func(a, b string) int { return h.used[a] - h.used[b] })
		wantKeys(t, c, live...)
	}
}

// TestP804Any: many calls, told by the model in all they answer.
func TestP804Any(t *testing.T) {
	r := rand.New(rand.NewPCG(8, 6))
	for range 200 {
		limit := 1 + r.IntN(1+r.IntN(80))
		w := twinOf(t, limit)
		for range 200 {
			switch r.IntN(10) {
			case 0:
				w.drop(some(r))
			case 1:
				w.peek(some(r))
			case 2, 3, 4:
				w.get(some(r))
			default:
				w.put(some(r), worth(r, limit+2))
			}
		}
		if t.Failed() {
			t.Fatal("with limit", limit)
		}
	}
}
