package cache_test

import (
	"bytes"
	"math/rand/v2"
	"slices"
	"strings"
	"testing"

	"icehouse/api"
	"icehouse/cache"
)

// P801

func TestP801NobodyMade(t *testing.T) {
	refused, _ := cache.New(0)
	for _, c := range []*cache.Cache{nil, {}, new(cache.Cache), refused} {
		for range 2 { // it stays so, whatever was called
			for _, key := range []string{"", "a", "\xff", strings.Repeat("a", api.MaxBytes+1)} {
				for _, value := range [][]byte{nil, {}, []byte("x"), make([]byte, api.MaxBytes+1)} {
					wantE(t, "Put", c.Put(key, value), api.ErrArg)
				}
				if v, ok := c.Get(key); ok || len(v) != 0 {
					t.Errorf("Get: %q %v", v, ok)
				}
				if v, ok := c.Peek(key); ok || len(v) != 0 {
					t.Errorf("Peek: %q %v", v, ok)
				}
				if c.Drop(key) {
					t.Error("Drop")
				}
			}
			wantKeys(t, c)
			wantUsed(t, c, 0)
			wantHits(t, c, 0, 0)
		}
	}
}

// TestP801Copy: a copy of a cache is the same one, so that no call of either can tear it.
func TestP801Copy(t *testing.T) {
	w := twinOf(t, 6)
	one, other := w.c, *w.c
	w.put("a", "xx")
	w.c = &other
	w.looks()
	w.put("b", "yyyy")
	w.drop("b")
	w.get("b")
	w.c = one
	w.looks()
	w.put("c", "zzzzz")
}

// TestP801NothingIsChanged: not even the room behind a value.
func TestP801NothingIsChanged(t *testing.T) {
	c := made(t, 20)
	for _, n := range []int{0, 1, 5, 10, 19, 20, 30} {
		room := bytes.Repeat([]byte("r"), 100)
		for _, key := range []string{"a", "a", "b", "a"} {
			c.Put(key, room[:n])
			c.Get(key)
			c.Peek(key)
			c.Put(key, room[:n/2])
			c.Drop(key)
		}
		if string(room) != strings.Repeat("r", 100) {
			t.Errorf("changed: %q", room)
		}
	}
}

// spoil: all that lies in b is overwritten, the room behind it too.
func spoil(b []byte) {
	for i := range b[:cap(b)] {
		b[:cap(b)][i] = '!'
	}
}

// TestP801ValuesAreNotKept: what Put was handed may be changed then.
func TestP801ValuesAreNotKept(t *testing.T) {
	for _, n := range []int{0, 1, 7, 8, 9, 64, 1000} {
		value := make([]byte, n, n+20)
		want := string(value)
		c := made(t, 5000)
		wantE(t, "Put", c.Put("a", value), api.OK)
		wantE(t, "Put of the same list", c.Put("b", value), api.OK)
		spoil(value)
		wantPeek(t, c, "a", want)
		wantPeek(t, c, "b", want)
		// Nor is it written to, when another is put in its place.
		wantE(t, "Put", c.Put("a", []byte(strings.Repeat("z", n))), api.OK)
		if string(value) != strings.Repeat("!", n) {
			t.Errorf("changed: %q", value)
		}
		wantPeek(t, c, "b", want)
	}
}

// TestP801AnswersAreNew: what was answered may be changed, and stays what it was.
func TestP801AnswersAreNew(t *testing.T) {
	for _, n := range []int{0, 1, 7, 8, 9, 64, 1000} {
		w := twinOf(t, 3000)
		value := strings.Repeat("v", n)
		w.put("a", value)
		w.put("b", value)
		answers := [][]byte{}
		for range 2 {
			for _, key := range []string{"a", "b"} {
				got, _ := w.c.Get(key)
				w.m.get(key)
				seen, _ := w.c.Peek(key)
				answers = append(answers, got, seen)
			}
		}
		for i, v := range answers {
			spoil(v)
			for _, other := range answers[i+1:] {
				if string(other) != value {
					t.Fatalf("shared with another answer: %q", other)
				}
			}
			w.looks()
		}
		// What was answered stays, whatever is put then.
		seen, _ := w.c.Peek("a")
		w.put("a", strings.Repeat("w", n))
		w.drop("a")
		w.put("a", strings.Repeat("u", n))
		if string(seen) != value {
			t.Errorf("an answer was changed: %q", seen)
		}
	}
}

func TestP801KeysAreNew(t *testing.T) {
	w := twinOf(t, 100)
	for _, key := range []string{"a", "b", "c", "d", "e"} {
		w.put(key, "v")
	}
	one, two := w.c.Keys(), w.c.Keys()
	for i := range one[:cap(one)] {
		one[:cap(one)][i] = "!"
	}
	if want := []string{"a", "b", "c", "d", "e"}; !slices.Equal(two, want) {
		t.Errorf("shared with another answer: %q", two)
	}
	w.looks()
	w.drop("b")
	w.get("a")
	if want := []string{"a", "b", "c", "d", "e"}; !slices.Equal(two, want) {
		t.Errorf("an answer was changed: %q", two)
	}
}

// TestP801CachesAreApart: what is asked of one changes nothing in another one.
func TestP801CachesAreApart(t *testing.T) {
	one, two := twinOf(t, 6), twinOf(t, 9)
	one.put("a", "xx")
	two.looks()
	two.put("a", "yy")
	one.looks()
	one.get("a")
	two.get("none")
	one.drop("a")
	two.looks()
	two.put("b", "yyyyyyyy")
	one.looks()
	one.put("b", "x")
	two.looks()
}

// TestP801TheSameAgain: the same calls are answered the same.
func TestP801TheSameAgain(t *testing.T) {
	r := rand.New(rand.NewPCG(8, 7))
	for range 100 {
		limit, seed := 1+r.IntN(60), r.Uint64()
		tell := func() []string {
			r, c, h := rand.New(rand.NewPCG(seed, 1)), made(t, limit), newHistory()
			out := []string{}
			for range 100 {
				h.call(t, r, c, limit)
				for _, key := range c.Keys() {
					value, _ := c.Peek(key)
					out = append(out, key, string(value))
				}
			}
			return out
		}
		if !slices.Equal(tell(), tell()) {
			t.Fatal("the same calls were answered otherwise")
		}
	}
}
