package simobj_test

import (
	"math"
	"strconv"
	"strings"
	"testing"

	"icehouse/api"
	"icehouse/simobj"
)

// P1102

func wantE(t *testing.T, what string, got, want api.Errno) {
	t.Helper()
	if got != want {
		t.Errorf("%s: %d, want %d", what, got, want)
	}
}

func wantStory(t *testing.T, s *simobj.Store, text, want string) {
	t.Helper()
	if got := story(s, text); got != want {
		t.Errorf("%s:\n%s, want\n%s", text, got, want)
	}
}

func TestP1102New(t *testing.T) {
	for _, lag := range []int{-1, -2, -100, math.MinInt, math.MinInt + 1, 101, 102, 1 << 40, math.MaxInt} {
		if s, e := simobj.New(lag); s != nil || e != api.ErrArg {
			t.Errorf("New(%d): %v %d", lag, s, e)
		}
	}
	for _, lag := range []int{0, 1, 2, 50, 99, 100} {
		s := made(t, lag)
		wantStory(t, s, "now, calls, keys, look a, get a, list, calls", `0 0 [] false"" 3 0[] 2`)
		wantE(t, "Lag at the greatest", s.Lag(lag), api.OK)
		wantE(t, "Lag above it", s.Lag(lag+1), api.ErrArg)
	}
}

// TestP1102Done: each call, and what it does, told without a model.
func TestP1102Done(t *testing.T) {
	for _, c := range []struct{ text, want string }{
		{"put a x, get a, look a, keys, list", `0 0"x" true"x" [a] 0[a]`},
		{"put b x, put a y, put B z, keys, list, get a, get b, get B", `0 0 0 [B a b] 0[B a b] 0"y" 0"x" 0"z"`},
		{"put a x, put a yz, get a, keys", `0 0 0"yz" [a]`},
		{"put a xyz, put a y, get a", `0 0 0"y"`},
		{"put a xyz, put a, get a, look a, keys", `0 0 0"" true"" [a]`},
		{"put a x, delete a, get a, look a, keys, list", `0 0 3 false"" [] 0[]`},
		{"put a x, put b y, delete a, get a, get b, keys", `0 0 0 3 0"y" [b]`},
		{"delete a, keys, get a, delete a, put a x, delete b, keys", `0 [] 3 0 0 0 [a]`},
		{"put a x, delete a, put a y, get a, keys", `0 0 0 0"y" [a]`},
		{"put a x, get A, get aa, get b", `0 3 3 3`},
		{"put a/b x, put a/c y, put a z, put b/a w, list a, list a/, list a/b, list a/bc, list b, list c, list /", `0 0 0 0 0[a a/b a/c] 0[a/b a/c] 0[a/b] 0[] 0[b/a] 0[] 0[]`},
		{"now, tick 0, now, tick 5, now, tick 1, tick 2, now", `0 0 0 0 5 0 0 8`},
	} {
		for _, lag := range []int{0, 3, 100} {
			wantStory(t, made(t, lag), c.text, c.want)
			w := twinOf(t, lag)
			w.play(c.text)
			w.every()
		}
	}
}

// TestP1102Lists: how they lag, told without a model.
func TestP1102Lists(t *testing.T) {
	for _, c := range []struct{ text, want string }{
		{"tick 5, put a x, lag 3, list, tick 3, list", `0 0 0 0[] 0 0[a]`}, // the chapter's example
		{"put a x, lag 3, list, tick 1, list, tick 1, list, tick 1, list", `0 0 0[] 0 0[] 0 0[] 0 0[a]`},
		{"lag 1, put a x, list, tick 1, list", `0 0 0[] 0 0[a]`},
		{"lag 3, put a x, tick 3, delete a, list, tick 2, list, tick 1, list", `0 0 0 0 0[a] 0 0[a] 0 0[]`},
		{"lag 3, put a x, delete a, list, tick 3, list", `0 0 0 0[] 0 0[]`},
		{"lag 3, put a x, tick 1, delete a, list, tick 2, list, tick 1, list", `0 0 0 0 0[] 0 0[a] 0 0[]`},
		{"lag 3, put a x, tick 3, delete a, put a y, list, get a, tick 3, list", `0 0 0 0 0 0[a] 0"y" 0 0[a]`},
		{"lag 3, put a x, tick 3, delete a, tick 1, put a y, list, tick 2, list, tick 1, list", `0 0 0 0 0 0 0[a] 0 0[] 0 0[a]`},
		{"lag 3, put a x, tick 2, put a y, tick 1, list, get a", `0 0 0 0 0 0[a] 0"y"`},
		{"lag 3, put a x, tick 1, put b x, tick 1, put c x, tick 1, list, tick 1, list, tick 1, list", `0 0 0 0 0 0 0 0[a] 0 0[a b] 0 0[a b c]`},
		{"put a x, tick 1, put b x, tick 1, put c x, list, lag 1, list, lag 2, list, lag 3, list, lag 0, list", `0 0 0 0 0 0[a b c] 0 0[a b] 0 0[a] 0 0[] 0 0[a b c]`},
		{"put a x, tick 9, lag 3, list, tick 1, put b x, list, lag 0, list", `0 0 0 0[a] 0 0 0[a] 0 0[a b]`},
		{"lag 3, tick 9, delete a, put a x, put b x, list, tick 3, list", `0 0 0 0 0 0[] 0 0[a b]`},
		{"put a x, put b x, tick 3, lag 3, delete b, delete a, list, list a, list b, list c, tick 3, list", `0 0 0 0 0 0 0[a b] 0[a] 0[b] 0[] 0 0[]`},
		{"lag 3, put a x, tick 1073741824, list, delete a, list, tick 1073741824, list", `0 0 0 0[a] 0 0[a] 0 0[]`},
		{"lag 3, lag 4, put a x, tick 2, list, tick 1, list", `0 1 0 0 0[] 0 0[a]`},
	} {
		wantStory(t, made(t, 3), c.text, c.want)
		w := twinOf(t, 3)
		w.play(c.text)
		w.every()
	}
}

// TestP1102Refused: by what, also where two stand against it; nothing has
// changed, and it was no call.
func TestP1102Refused(t *testing.T) {
	long, big := strings.Repeat("n", api.MaxName+1), strings.Repeat("x", api.MaxBytes+1)
	for _, c := range []struct {
		x    step
		want string
	}{
		{step{"put", "", "x"}, "1"},
		{step{"put", long, "x"}, "1"},
		{step{"put", "a b", "x"}, "1"},
		{step{"put", "", big}, "1"},
		{step{"put", long, big}, "1"},
		{step{"put", "a\x7f", big}, "1"},
		{step{"put", "a", big}, "6"},
		{step{"put", "d", big}, "6"},
		{step{"get", "", ""}, "1"},
		{step{"get", long, ""}, "1"},
		{step{"get", "a\x00", ""}, "1"},
		{step{"delete", "", ""}, "1"},
		{step{"delete", long, ""}, "1"},
		{step{"delete", "\xff", ""}, "1"},
		{step{"list", long, ""}, "1"},
		{step{"list", "a ", ""}, "1"},
		{step{"tick", "-1", ""}, "1"},
		{step{"tick", strconv.Itoa(1<<30 + 1), ""}, "1"},
		{step{"lag", "-1", ""}, "1"},
		{step{"lag", "5", ""}, "1"},
	} {
		w := twinOf(t, 4)
		w.play("lag 2, put a x, tick 1, put b x, tick 1, put c x, delete a, fail 1 done")
		for range 3 {
			if got := w.do(c.x); got != c.want {
				t.Errorf("%s %s %s: %s, want %s", c.x.call, brief(c.x.key), brief(c.x.more), got, c.want)
			}
		}
		wantStory(t, w.s, "calls, list, calls, list, tick 1, list, get b, get a", "4 8 5 0[a] 0 0[a b] 0\"x\" 3")
	}
}

// TestP1102None: a Get of what is not there is a call.
func TestP1102None(t *testing.T) {
	w := twinOf(t, 4)
	w.play("get a, put a x, get b, delete a, get a")
	wantStory(t, w.s, "calls, fail 1 done, get a, calls, get a, fail 2 not, get a, get a, get a", "5 - 8 6 3 - 3 8 3")
}

// TestP1102Keys: of how many bytes, and of which; of beginnings likewise.
func TestP1102Keys(t *testing.T) {
	w := twinOf(t, 2)
	for _, n := range []int{0, 1, 2, api.MaxName - 1, api.MaxName, api.MaxName + 1, 1000} {
		key := strings.Repeat("k", n)
		may := n >= 1 && n <= api.MaxName
		for _, call := range []string{"put", "get", "list", "delete", "put"} {
			e := w.do(step{call, key, "x"})
			if refused := e == "1"; refused == (may || call == "list" && n == 0) {
				t.Errorf("%s of %d bytes: %s", call, n, e)
			}
		}
	}
	for b := range 256 {
		for _, key := range []string{string([]byte{byte(b)}), string([]byte{'k', byte(b)}), string([]byte{byte(b), 'k'}), strings.Repeat("k", 63) + string([]byte{byte(b)})} {
			may := b >= 33 && b <= 126
			for _, call := range []string{"put", "get", "list", "delete"} {
				if e := w.one(step{call, key, "x"}); (e == "1") == may {
					t.Errorf("%s %q: %s", call, key, e)
				}
			}
		}
	}
	for _, key := range []string{"ä", "a\nb", "\x00", "", " ", "\t"} {
		w.do(step{"put", key, "x"})
		w.do(step{"delete", key, ""})
	}
}

// TestP1102Sizes: of objects.
func TestP1102Sizes(t *testing.T) {
	for _, n := range []int{0, 1, api.MaxBytes - 1, api.MaxBytes} {
		s := made(t, 2)
		b := []byte(strings.Repeat("x", n))
		wantE(t, "Put", s.Put("a", b), api.OK)
		if got, e := s.Get("a"); string(got) != string(b) || e != api.OK {
			t.Errorf("Get: %d bytes %d, want %d", len(got), e, n)
		}
		wantE(t, "Put of too much", s.Put("a", make([]byte, api.MaxBytes+1)), api.ErrSize)
		wantE(t, "Put of far too much", s.Put("a", make([]byte, api.MaxBytes*3)), api.ErrSize)
		if got, there := s.Look("a"); string(got) != string(b) || !there {
			t.Errorf("Look: %d bytes %v, want %d", len(got), there, n)
		}
	}
}

// TestP1102Full: at most MaxObject objects, whatever lists tell.
func TestP1102Full(t *testing.T) {
	s := made(t, 5)
	s.Lag(5)
	key := func(i int) string { return "k" + strconv.Itoa(i) }
	for i := range api.MaxObject {
		wantE(t, "Put", s.Put(key(i), []byte("x")), api.OK)
	}
	wantE(t, "one more", s.Put("more", []byte("x")), api.ErrFull)
	wantE(t, "one more that is too long", s.Put("more", make([]byte, api.MaxBytes+1)), api.ErrSize)
	wantE(t, "one more of no key", s.Put("", []byte("x")), api.ErrArg)
	if s.Calls() != api.MaxObject || len(s.Keys()) != api.MaxObject {
		t.Errorf("Calls, Keys: %d %d", s.Calls(), len(s.Keys()))
	}
	wantE(t, "one that is there", s.Put(key(7), []byte("y")), api.OK)
	wantE(t, "Delete", s.Delete(key(9)), api.OK)
	s.Tick(5)
	if l, e := s.List(""); len(l) != api.MaxObject-1 || e != api.OK {
		t.Errorf("List: %d keys %d", len(l), e)
	}
	wantE(t, "one instead", s.Put("more", []byte("x")), api.OK)
	wantE(t, "two instead", s.Put(key(9), []byte("x")), api.ErrFull)
	s.Fail(1, true)
	wantE(t, "a failing one too many", s.Put(key(9), []byte("x")), api.ErrFull)
	wantE(t, "a failing one that is there", s.Put("more", []byte("z")), api.ErrFault)
	if got := story(s, "look more, look k9, look k7"); got != `true"z" false"" true"y"` {
		t.Error(got)
	}
}

func TestP1102Tick(t *testing.T) {
	for _, n := range []int{-1, -2, math.MinInt, math.MinInt + 1, 1<<30 + 1, 1 << 31, 1 << 40, 1<<40 + 1, math.MaxInt, math.MaxInt - 1} {
		for _, begin := range []int{0, 7} {
			w := twinOf(t, 3)
			w.play("tick " + strconv.Itoa(begin) + ", put a x, lag 2, list, tick " + strconv.Itoa(n) + ", now, list, tick 2, now, list")
			wantE(t, "Tick", w.s.Tick(n), api.ErrArg)
			if w.s.Now() != begin+2 {
				t.Errorf("Now: %d", w.s.Now())
			}
		}
	}
	for _, n := range []int{0, 1, 2, 1<<30 - 1, 1 << 30} {
		w := twinOf(t, 3)
		w.play("put a x, lag 2, list, tick " + strconv.Itoa(n) + ", now, list, tick " + strconv.Itoa(n) + ", list")
		if w.s.Now() != 2*n {
			t.Errorf("Now: %d", w.s.Now())
		}
	}
}

// TestP1102EndOfClock: up to 2^40, and not past it.
func TestP1102EndOfClock(t *testing.T) {
	w := twinOf(t, 3)
	w.play("lag 3, put a x")
	for range 1<<10 - 1 {
		wantE(t, "Tick", w.s.Tick(1<<30), api.OK)
		w.m.clock += 1 << 30
	}
	w.play("list, put b x")
	for _, n := range []int{1<<30 - 5, 0, 6, 4, 2, 1 << 30, 1, 0, 1, 2, 1 << 30, math.MaxInt, math.MinInt, -1, 0} {
		w.do(step{"tick", strconv.Itoa(n), ""})
		w.play("list, put c x, list")
	}
	if w.s.Now() != 1<<40 {
		t.Errorf("Now: %d", w.s.Now())
	}
	w.every()
	w.play("delete a, list, get a, fail 2 not, delete b, delete c, keys, list")
	w.every()
}

func TestP1102Lag(t *testing.T) {
	for _, most := range []int{0, 1, 3, 100} {
		for _, n := range []int{math.MinInt, -2, -1, 0, 1, 2, 3, 4, 99, 100, 101, math.MaxInt} {
			want := api.OK
			if n < 0 || n > most {
				want = api.ErrArg
			}
			w := twinOf(t, most)
			w.play("put a x, tick 2, put b x, tick 2, put c x, tick 1, list")
			wantE(t, "Lag "+strconv.Itoa(n), w.s.Lag(n), want)
			if want == api.OK {
				w.m.lag = n
			}
			w.play("list, tick 1, list, tick 1, list, delete c, list")
			w.every()
		}
	}
}

// TestP1102Failure: that of k calls the last one fails, whatever it is, and no other one.
func TestP1102Failure(t *testing.T) {
	ends := map[string]string{"put": "[a b c p]", "delete": "[b c]", "get": "[a b c]", "list": "[a b c]"}
	for _, call := range steps("put p new, get a, delete a, list") {
		for _, done := range []string{"done", "not"} {
			for _, k := range []int{1, 2, 3, 7} {
				w := twinOf(t, 2)
				w.play("put a x, put b x, put c x, tick 2, lag 1, fail " + strconv.Itoa(k) + " " + done)
				for range k - 1 {
					w.play("tick 1, put b y")
				}
				calls := w.s.Calls()
				if got := w.do(call); got != "8" || w.s.Calls() != calls+1 {
					t.Errorf("%v: %s, want 8; %d calls, want %d", call, got, w.s.Calls(), calls+1)
				}
				want := "[a b c]"
				if done == "done" {
					want = ends[call.call]
				}
				if got := story(w.s, "keys"); got != want {
					t.Errorf("%v, %s: %s, want %s", call, done, got, want)
				}
				for range 9 {
					w.play("put b z, get a, get p, list, tick 1")
				}
				w.every()
			}
			for _, k := range []int{0, -1, -2, math.MinInt} {
				w := twinOf(t, 2)
				w.play("put a x, fail 1 done, fail " + strconv.Itoa(k) + " " + done)
				for range 3 {
					if got := w.do(call); got[0] != '0' && got != "3" {
						t.Errorf("%v: %s", call, got)
					}
				}
			}
			w := twinOf(t, 2)
			w.play("put a x, fail " + strconv.Itoa(math.MaxInt) + " " + done)
			for range 5 {
				w.do(call)
			}
		}
	}
}

// TestP1102FailureOfChanges: a Put or Delete that fails, and is done, or not: what lists tell of it.
func TestP1102FailureOfChanges(t *testing.T) {
	for _, c := range []struct{ text, want string }{
		{"lag 2, fail 1 done, put a x, keys, list, tick 2, list, get a", `0 - 8 [a] 0[] 0 0[a] 0"x"`},
		{"lag 2, fail 1 not, put a x, keys, list, tick 2, list, get a", `0 - 8 [] 0[] 0 0[] 3`},
		{"put a x, fail 1 done, put a y, keys, get a", `0 - 8 [a] 0"y"`},
		{"put a x, fail 1 not, put a y, keys, get a", `0 - 8 [a] 0"x"`},
		{"put a x, tick 2, lag 2, fail 1 done, delete a, keys, list, tick 1, list, tick 1, list", `0 0 0 - 8 [] 0[a] 0 0[a] 0 0[]`},
		{"put a x, tick 2, lag 2, fail 1 not, delete a, keys, list, tick 1, list, tick 1, list", `0 0 0 - 8 [a] 0[a] 0 0[a] 0 0[a]`},
		{"fail 1 done, delete a, keys, calls, delete a", `- 8 [] 1 0`},
		{"put a x, fail 1 done, get a, get a", `0 - 8 0"x"`},
		{"put a x, fail 1 done, list, list", `0 - 8 0[a]`},
		{"fail 3 not, fail 2 done, put a x, put b x, put c x, keys", `- - 0 8 0 [a b c]`},
		{"fail 1 done, fail 1 not, put a x, keys", `- - 8 []`},
		{"fail 2 done, tick 1, lag 1, now, calls, keys, look a, list, put a x, keys, calls", `- 0 0 1 0 [] false"" 0[] 8 [a] 2`},
	} {
		wantStory(t, made(t, 3), c.text, c.want)
		w := twinOf(t, 3)
		w.play(c.text)
		w.every()
	}
}
