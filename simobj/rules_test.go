package simobj_test

import (
	"bytes"
	"math"
	"math/rand/v2"
	"runtime"
	"slices"
	"strconv"
	"strings"
	"testing"

	"icehouse/api"
	"icehouse/simobj"
)

// P1101

func TestP1101NobodyMade(t *testing.T) {
	refused, _ := simobj.New(-1)
	for _, s := range []*simobj.Store{nil, {}, new(simobj.Store), refused} {
		for range 2 { // it stays so, whatever was called
			for _, key := range []string{"", "a", "\xff", strings.Repeat("a", api.MaxName+1)} {
				for _, call := range []string{"put", "get", "delete", "list"} {
					if got := ask(s, step{call, key, "x"}); got != "1" {
						t.Errorf("%s %s: %s", call, brief(key), got)
					}
				}
				if got := ask(s, step{"look", key, ""}); got != `false""` {
					t.Errorf("look %s: %s", brief(key), got)
				}
			}
			wantE(t, "Put of too much", s.Put("a", make([]byte, api.MaxBytes+1)), api.ErrArg)
			for _, n := range []int{0, 1, -1, math.MinInt, math.MaxInt} {
				wantE(t, "Tick", s.Tick(n), api.ErrArg)
				wantE(t, "Lag", s.Lag(n), api.ErrArg)
				s.Fail(n, true)
			}
			if got := story(s, "keys, now, calls"); got != "[] 0 0" {
				t.Error(got)
			}
		}
	}
}

// TestP1101Any: whatever is called ends, and answers as the model does.
func TestP1101Any(t *testing.T) {
	r := rand.New(rand.NewPCG(11, 8))
	numbers := []int{math.MinInt, math.MinInt + 1, -1, 0, 1, 2, 3, 1 << 30, 1<<30 + 1, 1 << 40, math.MaxInt - 1, math.MaxInt}
	words := []string{"", "a", "b", "\x00", "\xff", strings.Repeat("a", 64), strings.Repeat("a", 65), "a b", "~", "!"}
	for range 100 {
		w := twinOf(t, r.IntN(101))
		for range 100 {
			n, word := strconv.Itoa(numbers[r.IntN(len(numbers))]), words[r.IntN(len(words))]
			switch call := []string{"put", "get", "delete", "list", "look", "tick", "lag", "fail"}[r.IntN(8)]; call {
			case "tick", "lag", "fail":
				w.do(step{call, n, []string{"done", "not"}[r.IntN(2)]})
			default:
				w.do(step{call, word, words[r.IntN(len(words))]})
			}
		}
	}
}

// TestP1101Copy: a copy of a store is the same one, so that no call of either can tear it.
func TestP1101Copy(t *testing.T) {
	w := twinOf(t, 5)
	one, other := w.s, *w.s
	w.play("put a x, tick 2, lag 2")
	w.s = &other
	w.looks()
	w.play("list, put b x, list, fail 2 done")
	w.s = one
	w.play("put c x, list, lag 3")
	w.s = &other
	w.play("delete a, list, keys, tick 2")
	w.s = one
	w.play("list")
	w.every()
}

// TestP1101NothingIsChanged: not even the room behind a list.
func TestP1101NothingIsChanged(t *testing.T) {
	for n := range 9 {
		room := bytes.Repeat([]byte("r"), 100)
		s := made(t, 2)
		for range 3 {
			s.Put("a", room[:n])
			s.Put("b", room[:2*n])
			s.Get("a")
			s.List("")
			s.Put("a", []byte("other"))
		}
		if string(room) != strings.Repeat("r", 100) {
			t.Errorf("changed: %q", room)
		}
	}
}

// spoil: all that lies in b is overwritten, the room behind it too.
func spoil(b []byte) {
	for i := range b[:cap(b)] {
		b[:cap(b)][i] = '!'
	}
}

// spoilTexts: likewise, of a list of texts.
func spoilTexts(l []string) {
	for i := range l[:cap(l)] {
		l[:cap(l)][i] = "!"
	}
}

// TestP1101BytesAreNotKept: what Put was handed may be changed then.
func TestP1101BytesAreNotKept(t *testing.T) {
	for _, n := range []int{0, 1, 7, 8, 9, 64, 1000} {
		b := bytes.Repeat([]byte("p"), n+20)[:n]
		want := string(b)
		w := twinOf(t, 2)
		for _, key := range []string{"a", "b", "a"} {
			wantE(t, "Put", w.s.Put(key, b), api.OK)
			w.m.ask(step{"put", key, want})
		}
		spoil(b)
		w.looks()
		w.every()
		w.play("put b more, get a")
		if string(b) != strings.Repeat("!", n) {
			t.Errorf("changed: %q", b)
		}
	}
}

// TestP1101AnswersAreNew: what was answered may be changed, and stays what it was.
func TestP1101AnswersAreNew(t *testing.T) {
	w := twinOf(t, 3)
	w.play("put a 0123456789, put b xyz, tick 3, put c 1, delete b, lag 2")
	type answers struct {
		got, looked, empty []byte
		listed, keys       []string
	}
	take := func() (x answers) {
		x.got, _ = w.s.Get("a")
		x.looked, _ = w.s.Look("a")
		x.empty, _ = w.s.Look("none-such")
		x.listed, _ = w.s.List("")
		x.keys = w.s.Keys()
		w.m.calls += 2
		return x
	}
	stays := take()
	for range 3 {
		x := take()
		spoil(x.got)
		spoil(x.looked)
		spoil(x.empty)
		spoilTexts(x.listed)
		spoilTexts(x.keys)
		w.looks()
	}
	w.every()
	w.play("put a other, put d y, delete c, tick 1, list, put a 9, tick 3, list")
	w.every()
	if string(stays.got) != "0123456789" || string(stays.looked) != "0123456789" || !slices.Equal(stays.listed, []string{"a", "b"}) || !slices.Equal(stays.keys, []string{"a", "c"}) {
		t.Errorf("an answer was changed: %q %q %q %q", stays.got, stays.looked, stays.listed, stays.keys)
	}
}

// TestP1101StoresAreApart: what is asked of one changes nothing in another one.
func TestP1101StoresAreApart(t *testing.T) {
	one, two := twinOf(t, 5), twinOf(t, 7)
	one.play("put a x, tick 2, lag 3, list")
	two.looks()
	two.play("put a yy, tick 1, lag 1, fail 2 done, list")
	one.looks()
	one.play("put b x, get a, list, delete a")
	two.play("delete a, list, keys")
	one.every()
	two.every()
}

// TestP1101TheSameAgain: the same calls are answered the same.
func TestP1101TheSameAgain(t *testing.T) {
	r := rand.New(rand.NewPCG(11, 9))
	for range 200 {
		seed := r.Uint64()
		tell := func() string {
			r, s, out := rand.New(rand.NewPCG(seed, 1)), made(t, 9), []string{}
			for range 60 {
				out = append(out, ask(s, chance(r, 9)), story(s, "keys, now, calls"))
			}
			return strings.Join(out, " ")
		}
		if tell() != tell() {
			t.Fatal("the same calls were answered otherwise")
		}
	}
}

// heap: how many bytes are in use.
func heap() int {
	runtime.GC()
	var m runtime.MemStats
	runtime.ReadMemStats(&m)
	return int(m.HeapAlloc)
}

// TestP1101KeepsNoMore: changes that no lag reaches any more are not kept, nor are texts of which a key was a piece.
func TestP1101KeepsNoMore(t *testing.T) {
	for _, lag := range []int{0, 100} {
		s := made(t, lag)
		ahead := heap()
		for i := range 300000 {
			s.Put("a", nil)
			s.Delete("a")
			if lag > 0 {
				s.Tick(i % 3)
			}
		}
		for i := range 50 {
			long := strings.Repeat(strconv.Itoa(i)+"k", 1<<17)
			s.Put(long[:7], []byte("x"))
		}
		if more := heap() - ahead; more > 4<<20 {
			t.Errorf("greatest lag %d: %d bytes more are kept", lag, more)
		}
		runtime.KeepAlive(s)
	}
}
