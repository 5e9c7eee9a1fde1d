package cache_test

import (
	"math"
	"slices"
	"strconv"
	"strings"
	"testing"

	"icehouse/api"
	"icehouse/cache"
)

// pair: a key and its value.
type pair struct{ key, value string }

// model: what a cache keeps, what was used first ahead; all of it is gone
// through for each call.
type model struct {
	limit, hits, misses int
	pairs               []pair
}

func (m *model) place(key string) int {
	return slices.IndexFunc(m.pairs, func(p pair) bool { return p.key == key })
}

func (m *model) used() int {
	sum := 0
	for _, p := range m.pairs {
		sum += len(p.key) + len(p.value)
	}
	return sum
}

func (m *model) put(key, value string) api.Errno {
	if len(key)+len(value) > m.limit {
		return api.ErrSize
	}
	m.drop(key)
	for m.used()+len(key)+len(value) > m.limit {
		m.pairs = m.pairs[1:]
	}
	m.pairs = append(m.pairs, pair{key, value})
	return api.OK
}

func (m *model) peek(key string) (string, bool) {
	i := m.place(key)
	if i < 0 {
		return "", false
	}
	return m.pairs[i].value, true
}

func (m *model) get(key string) (string, bool) {
	value, there := m.peek(key)
	if !there {
		m.misses++
		return "", false
	}
	m.hits++
	m.drop(key)
	m.pairs = append(m.pairs, pair{key, value})
	return value, true
}

func (m *model) drop(key string) bool {
	i := m.place(key)
	if i < 0 {
		return false
	}
	m.pairs = slices.Delete(slices.Clone(m.pairs), i, i+1)
	return true
}

func (m *model) keys() []string {
	keys := []string{}
	for _, p := range m.pairs {
		keys = append(keys, p.key)
	}
	return keys
}

// twin: a cache, and its model; a call of it is answered by both, which must agree.
type twin struct {
	t *testing.T
	c *cache.Cache
	m *model
}

func twinOf(t *testing.T, limit int) *twin {
	t.Helper()
	w := &twin{t, made(t, limit), &model{limit: limit}}
	w.looks()
	return w
}

func made(t *testing.T, limit int) *cache.Cache {
	t.Helper()
	c, e := cache.New(limit)
	if c == nil || e != api.OK {
		t.Fatalf("New(%d): %v %d", limit, c, e)
	}
	return c
}

// brief: what is long is told by its beginning.
func brief(s string) string { return strconv.Quote(s[:min(len(s), 20)]) }

// looks: whether all looks tell the model. None of them changes anything, so
// that the last ones tell of those ahead of them, too.
func (w *twin) looks() {
	w.t.Helper()
	for range 2 {
		wantKeys(w.t, w.c, w.m.keys()...)
		wantUsed(w.t, w.c, w.m.used())
		wantHits(w.t, w.c, w.m.hits, w.m.misses)
		for _, p := range w.m.pairs {
			wantPeek(w.t, w.c, p.key, p.value)
		}
	}
}

func (w *twin) put(key, value string) {
	w.t.Helper()
	if e, want := w.c.Put(key, []byte(value)), w.m.put(key, value); e != want {
		w.t.Errorf("Put(%s, %s): %d, want %d", brief(key), brief(value), e, want)
	}
	w.looks()
}

func (w *twin) get(key string) {
	w.t.Helper()
	got, ok := w.c.Get(key)
	if want, there := w.m.get(key); string(got) != want || ok != there {
		w.t.Errorf("Get(%s): %s %v, want %s %v", brief(key), brief(string(got)), ok, brief(want), there)
	}
	w.looks()
}

func (w *twin) peek(key string) {
	w.t.Helper()
	got, ok := w.c.Peek(key)
	if want, there := w.m.peek(key); string(got) != want || ok != there {
		w.t.Errorf("Peek(%s): %s %v, want %s %v", brief(key), brief(string(got)), ok, brief(want), there)
	}
	w.looks()
}

func (w *twin) drop(key string) {
	w.t.Helper()
	if ok, want := w.c.Drop(key), w.m.drop(key); ok != want {
		w.t.Errorf("Drop(%s): %v, want %v", brief(key), ok, want)
	}
	w.looks()
}

func wantE(t *testing.T, what string, got, want api.Errno) {
	t.Helper()
	if got != want {
		t.Errorf("%s: %d, want %d", what, got, want)
	}
}

func wantKeys(t *testing.T, c *cache.Cache, want ...string) {
	t.Helper()
	if got := c.Keys(); !slices.Equal(got, want) {
		t.Errorf("Keys: %q, want %q", got[:min(len(got), 20)], want[:min(len(want), 20)])
	}
}

func wantUsed(t *testing.T, c *cache.Cache, want int) {
	t.Helper()
	if got := c.Used(); got != want {
		t.Errorf("Used: %d, want %d", got, want)
	}
}

func wantHits(t *testing.T, c *cache.Cache, hits, misses int) {
	t.Helper()
	if h, m := c.Hits(); h != hits || m != misses {
		t.Errorf("Hits: %d %d, want %d %d", h, m, hits, misses)
	}
}

func wantPeek(t *testing.T, c *cache.Cache, key, want string) {
	t.Helper()
	if got, ok := c.Peek(key); !ok || string(got) != want {
		t.Errorf("Peek(%s): %s %v, want %s", brief(key), brief(string(got)), ok, brief(want))
	}
}

// noLimits: limits that may not be.
func noLimits() []int {
	return []int{0, -1, -2, math.MinInt, math.MinInt + 1, api.MaxBytes + 1, api.MaxBytes + 2, 1 << 40, math.MaxInt - 1, math.MaxInt}
}

// P802

func TestP802TheExample(t *testing.T) {
	c := made(t, 6)
	wantE(t, "Put", c.Put("a", []byte("xx")), api.OK)
	wantE(t, "Put", c.Put("b", []byte("yy")), api.OK)
	if v, ok := c.Get("a"); !ok || string(v) != "xx" {
		t.Errorf("Get: %q %v", v, ok)
	}
	wantE(t, "Put", c.Put("c", []byte("z")), api.OK)
	wantKeys(t, c, "a", "c")
	wantUsed(t, c, 5)
	wantHits(t, c, 1, 0)
	if v, ok := c.Peek("b"); ok || len(v) != 0 {
		t.Errorf("b is there: %q %v", v, ok)
	}
}

func TestP802New(t *testing.T) {
	for _, limit := range noLimits() {
		if c, e := cache.New(limit); c != nil || e != api.ErrArg {
			t.Errorf("New(%d): %v %d", limit, c, e)
		}
	}
	for _, limit := range []int{1, 2, 3, 1000, api.MaxBytes - 1, api.MaxBytes} {
		c := made(t, limit)
		wantKeys(t, c)
		wantUsed(t, c, 0)
		wantHits(t, c, 0, 0)
		// The limit is just this one.
		wantE(t, "Put above it", c.Put("", make([]byte, limit+1)), api.ErrSize)
		wantE(t, "Put at it", c.Put("", make([]byte, limit)), api.OK)
		wantUsed(t, c, limit)
	}
}

// TestP802Size: the size is that of the key and of the value, wherever it lies.
func TestP802Size(t *testing.T) {
	for _, limit := range []int{1, 2, 3, 6, 1000, api.MaxBytes} {
		for _, key := range []int{0, 1, limit / 2, limit - 1, limit} {
			w := twinOf(t, limit)
			k := strings.Repeat("k", key)
			for _, more := range []int{-1, 0, 1, 2, 1 << 20} {
				if n := limit - key + more; n >= 0 {
					w.put(k, strings.Repeat("v", n))
				}
			}
			w.put(strings.Repeat("k", limit+1), "")
			w.put(strings.Repeat("k", limit+1<<21), "v")
		}
	}
}

// TestP802TooLarge: nothing changes, not even where the key is there.
func TestP802TooLarge(t *testing.T) {
	c := made(t, 6)
	wantE(t, "Put", c.Put("a", []byte("xx")), api.OK)
	wantE(t, "Put", c.Put("b", []byte("yy")), api.OK)
	c.Get("none")
	for _, p := range []pair{
		{"a", "xxxxxx"}, {"b", "yyyyyy"}, {"c", "zzzzzz"}, {"", "zzzzzzz"}, {"ccccccc", ""}, {"cccccc", "z"},
		{"a", strings.Repeat("x", 3*api.MaxBytes)}, {strings.Repeat("a", 3*api.MaxBytes), ""},
	} {
		wantE(t, "Put "+brief(p.key), c.Put(p.key, []byte(p.value)), api.ErrSize)
		wantKeys(t, c, "a", "b")
		wantUsed(t, c, 6)
		wantPeek(t, c, "a", "xx")
		wantPeek(t, c, "b", "yy")
		wantHits(t, c, 0, 1)
	}
	// The order is what it was: a goes first.
	wantE(t, "Put", c.Put("c", []byte("z")), api.OK)
	wantKeys(t, c, "b", "c")
}

// TestP802PutAgain: the key's own element goes ahead of all others.
func TestP802PutAgain(t *testing.T) {
	for _, c := range []struct {
		what, key, value string
		keys             []string
		used             int
	}{
		{"the same, used first", "a", "xx", []string{"b", "c", "a"}, 9},
		{"the same, in between", "b", "yy", []string{"a", "c", "b"}, 9},
		{"the same, used last", "c", "zz", []string{"a", "b", "c"}, 9},
		{"lesser", "a", "x", []string{"b", "c", "a"}, 8},
		{"empty", "b", "", []string{"a", "c", "b"}, 7},
		{"another of that size", "c", "ZZ", []string{"a", "b", "c"}, 9},
		{"greater, one goes", "c", "zzz", []string{"b", "c"}, 7},
		{"greater, it would have gone itself", "a", "xxx", []string{"c", "a"}, 7},
		{"greater, just one goes", "b", "yyyyy", []string{"c", "b"}, 9},
		{"greater, two go", "c", "zzzzzz", []string{"c"}, 7},
		{"greater, all go", "a", "xxxxxxxx", []string{"a"}, 9},
	} {
		w := twinOf(t, 9)
		w.put("a", "xx")
		w.put("b", "yy")
		w.put("c", "zz")
		w.put(c.key, c.value)
		if got := w.c.Keys(); !slices.Equal(got, c.keys) || w.c.Used() != c.used {
			t.Error(c.what, got, w.c.Used())
		}
		wantPeek(t, w.c, c.key, c.value)
	}
}

// TestP802OthersGo: one, several, all: never more than must.
func TestP802OthersGo(t *testing.T) {
	for _, c := range []struct {
		key, value string
		keys       []string
	}{
		{"e", "", []string{"a", "b", "c", "d", "e"}},
		{"e", "v", []string{"b", "c", "d", "e"}},
		{"e", "vv", []string{"b", "c", "d", "e"}},
		{"e", "vvv", []string{"c", "d", "e"}},
		{"e", "vvvv", []string{"c", "d", "e"}},
		{"e", "vvvvvv", []string{"d", "e"}},
		{"e", "vvvvvvv", []string{"e"}},
		{"e", "vvvvvvvv", []string{"e"}},
		{"eeeeeeeee", "", []string{"eeeeeeeee"}},
		{"", "vvvvvvvvv", []string{""}},
	} {
		w := twinOf(t, 9)
		for _, key := range []string{"a", "b", "c", "d"} {
			w.put(key, "v")
		}
		w.put(c.key, c.value)
		wantKeys(t, w.c, c.keys...)
	}
	// A great one goes for a small one, too.
	w := twinOf(t, 9)
	w.put("a", "vvvvvv")
	w.put("b", "")
	w.put("c", "")
	w.put("d", "")
	wantKeys(t, w.c, "b", "c", "d")
}

// TestP802Empty: an empty key and an empty value are as any other.
func TestP802Empty(t *testing.T) {
	w := twinOf(t, 2)
	w.get("")
	w.drop("")
	w.put("", "")
	wantKeys(t, w.c, "")
	w.get("")
	w.peek("")
	w.put("a", "")
	w.put("b", "")
	wantKeys(t, w.c, "", "a", "b")
	w.get("a")
	w.drop("")
	w.drop("")
	w.put("", "v")
	wantKeys(t, w.c, "a", "")
	w.put("", "")
	wantUsed(t, w.c, 1)
	// It goes in its turn, though nothing is won by that.
	w = twinOf(t, 2)
	w.put("", "")
	w.put("a", "x")
	w.put("b", "y")
	wantKeys(t, w.c, "b")
	w = twinOf(t, 2)
	w.put("a", "x")
	w.put("", "")
	w.put("b", "y")
	wantKeys(t, w.c, "", "b")
	// nil is an empty value.
	c := made(t, 1)
	wantE(t, "Put nil", c.Put("a", nil), api.OK)
	wantPeek(t, c, "a", "")
	wantE(t, "Put nil above the limit", c.Put("aa", nil), api.ErrSize)
	wantKeys(t, c, "a")
}

// TestP802GetAndPeek: what each does to the order, to Hits and to what goes next.
func TestP802GetAndPeek(t *testing.T) {
	begin := func() *twin {
		w := twinOf(t, 6)
		w.put("a", "x")
		w.put("b", "y")
		w.put("c", "z")
		return w
	}
	for _, c := range []struct {
		key, order, behind string
		hits, misses       int
	}{
		{"a", "b c a", "c a d", 1, 0},
		{"b", "a c b", "c b d", 1, 0},
		{"c", "a b c", "b c d", 1, 0},
		{"d", "a b c", "b c d", 0, 1},
		{"", "a b c", "b c d", 0, 1},
	} {
		w := begin()
		w.peek(c.key)
		wantKeys(t, w.c, "a", "b", "c")
		wantHits(t, w.c, 0, 0)
		w.put("d", "u")
		wantKeys(t, w.c, "b", "c", "d")
		w = begin()
		w.get(c.key)
		wantKeys(t, w.c, strings.Fields(c.order)...)
		wantHits(t, w.c, c.hits, c.misses)
		w.put("d", "u")
		wantKeys(t, w.c, strings.Fields(c.behind)...)
		wantHits(t, w.c, c.hits, c.misses)
	}
}

func TestP802Hits(t *testing.T) {
	w := twinOf(t, 4)
	for i := range 3 {
		w.get("a")
		wantHits(t, w.c, 0, i+1)
	}
	w.put("a", "x")
	for i := range 4 {
		w.get("a")
		wantHits(t, w.c, i+1, 3)
	}
	// What went is a miss, and no other call counts.
	w.put("b", "yyy")
	w.put("c", "zzzz")
	w.peek("a")
	w.peek("b")
	w.drop("a")
	wantHits(t, w.c, 4, 3)
	w.get("a")
	w.get("b")
	wantHits(t, w.c, 5, 4)
	w.drop("b")
	w.drop("b")
	w.get("b")
	wantHits(t, w.c, 5, 5)
}

func TestP802Drop(t *testing.T) {
	w := twinOf(t, 6)
	w.drop("a")
	for _, order := range []string{"abc", "acb", "bac", "bca", "cab", "cba"} {
		w.put("a", "x")
		w.put("b", "y")
		w.put("c", "z")
		w.drop("d")
		w.drop("")
		for _, key := range strings.Split(order, "") {
			w.drop(key)
			w.drop(key)
			w.get(key)
			w.peek(key)
		}
		wantKeys(t, w.c)
		wantUsed(t, w.c, 0)
	}
	// There is room for what was dropped, and it comes back as new.
	w.put("a", "xx")
	w.put("b", "yy")
	w.drop("a")
	w.put("c", "zz")
	wantKeys(t, w.c, "b", "c")
	w.drop("c")
	w.put("a", "x")
	wantKeys(t, w.c, "b", "a")
	wantPeek(t, w.c, "a", "x")
}

// TestP802Keys: keys are any bytes, and each stands for itself alone.
func TestP802Keys(t *testing.T) {
	w := twinOf(t, 1000)
	keys := []string{"", "\x00", "\x00\x00", "\xff", "\xfe", "a", "A", "aa", "\u00e9", "e\u0301", " ", "0", "-0"}
	for _, key := range keys {
		w.put(key, "of "+key)
	}
	wantKeys(t, w.c, keys...)
	for _, key := range keys {
		w.get(key)
		w.get(key + ".")
	}
	wantKeys(t, w.c, keys...)
	for _, key := range keys {
		w.drop(key)
	}
	wantKeys(t, w.c)
}

// TestP802Many: as many elements as may be; each call costs little.
func TestP802Many(t *testing.T) {
	c := made(t, api.MaxBytes)
	n := api.MaxBytes / 8
	key := func(i int) string { return strconv.Itoa(10_000_000 + i) }
	for i := range 2 * n {
		if e := c.Put(key(i), nil); e != api.OK {
			t.Fatal(i, e)
		}
	}
	wantUsed(t, c, api.MaxBytes)
	want := []string{}
	for i := range n {
		want = append(want, key(n+i))
	}
	wantKeys(t, c, want...)
	for i := range 2 * n {
		if _, ok := c.Get(key(i)); ok != (i >= n) {
			t.Fatal(i, ok)
		}
	}
	wantKeys(t, c, want...)
	wantHits(t, c, n, n)
	for i := range 2 * n {
		if ok := c.Drop(key(2*n - 1 - i)); ok != (i < n) {
			t.Fatal(i, ok)
		}
	}
	wantKeys(t, c)
	wantUsed(t, c, 0)
}
