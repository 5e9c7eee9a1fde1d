package manifest_test

import (
	"fmt"
	"math"
	"math/rand/v2"
	"runtime"
	"slices"
	"testing"

	"icehouse/api"
	"icehouse/manifest"
	"icehouse/planner"
	"icehouse/simdisk"
)

// P1501

// TestP1501NobodyMade: no disk, and one that New did not make, whatever the State.
func TestP1501NobodyMade(t *testing.T) {
	refused, _ := simdisk.New(0)
	for _, d := range []*simdisk.Disk{nil, {}, new(simdisk.Disk), refused} {
		for range 2 {
			wantLoad(t, "no disk", d, manifest.State{}, api.ErrArg)
			for _, s := range []manifest.State{{}, first(), some(), full(), {Next: -1}} {
				wantE(t, "Save", manifest.Save(d, s), api.ErrArg)
			}
		}
	}
}

// TestP1501AnyArguments: whatever is called ends, and answers as the document says.
func TestP1501AnyArguments(t *testing.T) {
	r := rand.New(rand.NewPCG(15, 7))
	numbers := []int{math.MinInt, math.MinInt + 1, -1, 0, 1, 2, 3, 4, 5, 20, api.MaxBytes, most, most + 1, 1 << 56, math.MaxInt - 1, math.MaxInt}
	number := func() int { return numbers[r.IntN(len(numbers))] }
	p := pairOf(t, 1000)
	for range 20000 {
		s := manifest.State{Next: number(), Sure: number(), Seq: number()}
		if r.IntN(2) == 0 {
			s.Next, s.Sure, s.Seq = most, 0, most
		}
		for range r.IntN(3) {
			s.Locals = append(s.Locals, manifest.Local{ID: number(), First: number(), Last: number(), Bytes: number()})
		}
		for range r.IntN(3) {
			s.Blocks = append(s.Blocks, planner.Meta{ID: number(), Least: number(), Most: number(), First: number(), Last: number(), Rows: number(), Bytes: number(), Level: number()})
		}
		for range r.IntN(3) {
			x := manifest.Intent{Kind: number(), ID: number()}
			for range r.IntN(3) {
				x.From = append(x.From, number())
			}
			s.Intents = append(s.Intents, x)
		}
		for range r.IntN(3) {
			s.Marks = append(s.Marks, manifest.Mark{ID: number(), At: number()})
		}
		if manifest.Right(s) != mayBe(s) || !slices.Equal(manifest.Used(s), used(s)) {
			t.Fatal(told(s), manifest.Right(s), manifest.Used(s))
		}
		p.save(s)
		b := make([]byte, r.IntN(40))
		for i := range b {
			b[i] = byte(number())
		}
		wantNone(t, "any", b)
	}
	huge := manifest.State{Next: most, Locals: make([]manifest.Local, 1<<20), Blocks: make([]planner.Meta, 1<<18), Intents: make([]manifest.Intent, 1<<20), Marks: make([]manifest.Mark, 1<<20)}
	if manifest.Right(huge) || len(manifest.Used(huge)) != 3<<20+1<<18 {
		t.Error("huge")
	}
	wide := some()
	wide.Intents[1].From = make([]int, 1<<22)
	if manifest.Right(wide) {
		t.Error("wide")
	}
}

// TestP1501SameAgain: the same of the same.
func TestP1501SameAgain(t *testing.T) {
	r := rand.New(rand.NewPCG(15, 8))
	for range 300 {
		s := anyState(r)
		if r.IntN(2) == 0 {
			spoilOne(r, &s)
		}
		right, ids := manifest.Right(s), manifest.Used(s)
		b, e := manifest.Put(s)
		back, f := manifest.Get(b)
		for range 3 {
			manifest.Put(some())
			again, e2 := manifest.Put(s)
			backAgain, f2 := manifest.Get(b)
			if manifest.Right(s) != right || !slices.Equal(manifest.Used(s), ids) || string(again) != string(b) || e2 != e || told(backAgain) != told(back) || f2 != f {
				t.Fatal("it was otherwise: ", told(s))
			}
		}
	}
}

// roomy: the same State, with room behind each list, and something in it.
func roomy(s manifest.State) manifest.State {
	s.Locals = append(slices.Clone(s.Locals), local(77, 7, 7))[:len(s.Locals)]
	s.Blocks = append(slices.Clone(s.Blocks), block(78, 7, 7))[:len(s.Blocks)]
	s.Marks = append(slices.Clone(s.Marks), manifest.Mark{ID: 79, At: 7})[:len(s.Marks)]
	s.Intents = append(slices.Clone(s.Intents), manifest.Intent{ID: 80, From: []int{81}})[:len(s.Intents)]
	for i := range s.Intents {
		x := &s.Intents[i]
		x.From = append(slices.Clone(x.From), 82)[:len(x.From)]
	}
	return s
}

// whole: all that lies in a roomy State's memory, the room behind its lists too.
func whole(s manifest.State) string {
	s.Locals, s.Blocks, s.Marks = s.Locals[:len(s.Locals)+1], s.Blocks[:len(s.Blocks)+1], s.Marks[:len(s.Marks)+1]
	s.Intents = slices.Clone(s.Intents[:len(s.Intents)+1])
	for i := range s.Intents[:len(s.Intents)-1] {
		x := &s.Intents[i]
		x.From = x.From[:len(x.From)+1]
	}
	return told(s)
}

// spoil: all that can be reached from a State is overwritten, the room behind its lists too.
func spoil(s manifest.State) {
	for _, x := range s.Intents {
		spoilInts(x.From)
	}
	fill(s.Locals, manifest.Local{ID: 99, First: 99, Last: 99, Bytes: 99})
	fill(s.Blocks, block(98, 98, 98))
	fill(s.Intents, manifest.Intent{Kind: 97, ID: 97, From: []int{97}})
	fill(s.Marks, manifest.Mark{ID: 96, At: 96})
}

func fill[T any](l []T, x T) {
	l = l[:cap(l)]
	for i := range l {
		l[i] = x
	}
}

func spoilInts(l []int) { fill(l, 95) }

// roomyStates: of each size; and one that may not be.
func roomyStates() []manifest.State {
	wrong := some()
	slices.Reverse(wrong.Locals)
	slices.Reverse(wrong.Blocks)
	slices.Reverse(wrong.Intents)
	slices.Reverse(wrong.Marks)
	var out []manifest.State
	for _, s := range []manifest.State{{}, first(), some(), full(), wrong} {
		out = append(out, roomy(s))
	}
	return out
}

// TestP1501NothingIsChanged: what is handed in, and the room behind it, stays as it was.
func TestP1501NothingIsChanged(t *testing.T) {
	for _, s := range roomyStates() {
		before := whole(s)
		d := disk(t, api.MaxBytes)
		for range 2 {
			manifest.Right(s)
			manifest.Put(s)
			manifest.Used(s)
			manifest.Save(d, s)
			if whole(s) != before {
				t.Fatalf("changed: %.2000s, want %.2000s", whole(s), before)
			}
		}
	}
	for _, text := range []string{"", "some", string(bytesOf(some())), string(bytesOf(some())[1:]), string(bytesOf(manifest.State{}))} {
		roomy := append([]byte(text), "behind"...)
		manifest.Get(roomy[:len(text)])
		manifest.Get(roomy[:len(text)])
		if string(roomy) != text+"behind" {
			t.Errorf("changed: %q", roomy)
		}
	}
}

// TestP1501NothingIsKept: what was handed in may be changed then.
func TestP1501NothingIsKept(t *testing.T) {
	for _, s := range []manifest.State{some(), full()} {
		want := told(s)
		in, d := roomy(s), disk(t, api.MaxBytes)
		b, _ := manifest.Put(in)
		ids := manifest.Used(in)
		wantE(t, "Save", manifest.Save(d, in), api.OK)
		spoil(in)
		if string(b) != string(bytesOf(s)) || !slices.Equal(ids, used(s)) {
			t.Error("an answer was changed with what was handed in")
		}
		wantLoad(t, "spoilt", d, s, api.OK)
		got, e := manifest.Get(b)
		wantE(t, "Get", e, api.OK)
		clear(b[:cap(b)])
		if told(got) != want {
			t.Errorf("changed with its bytes: %.2000s", told(got))
		}
	}
}

// TestP1501AnswersAreNew: what was answered may be changed, the room behind it
// too: other answers stay, and so do the lists of the same answer.
func TestP1501AnswersAreNew(t *testing.T) {
	for _, s := range []manifest.State{some(), full()} {
		d := disk(t, api.MaxBytes)
		wantE(t, "Save", manifest.Save(d, s), api.OK)
		b, _ := manifest.Put(s)
		one, _ := manifest.Get(b)
		two, _ := manifest.Get(b)
		loaded, _ := manifest.Load(d)
		again, _ := manifest.Load(d)
		ids, same := manifest.Used(one), manifest.Used(one)
		wantApart(t, two)
		wantApart(t, again)
		spoil(two)
		spoil(again)
		spoilInts(same)
		wantTold(t, "Get", one, s)
		wantTold(t, "Load", loaded, s)
		wantLoad(t, "Load", d, s, api.OK)
		if !slices.Equal(ids, used(s)) || !slices.Equal(manifest.Used(one), used(s)) {
			t.Error("Used was changed with another answer")
		}
		other, _ := manifest.Put(s)
		clear(other[:cap(other)])
		if string(b) != string(bytesOf(s)) {
			t.Error("Put was changed with another answer")
		}
		got, _ := manifest.Get(b)
		wantTold(t, "Get", got, s)
		spoilInts(ids)
		wantTold(t, "spoilt ids", one, s)
	}
	for range 2 {
		s, _ := manifest.Load(disk(t, 100))
		spoil(s)
		wantTold(t, "the first", s, first())
	}
}

// wantApart: no two lists of a State share anything.
func wantApart(t *testing.T, s manifest.State) {
	t.Helper()
	for i, x := range s.Intents {
		before := told(manifest.State{Locals: s.Locals, Blocks: s.Blocks, Marks: s.Marks, Intents: slices.Delete(slices.Clone(s.Intents), i, i+1)})
		spoilInts(x.From)
		if after := told(manifest.State{Locals: s.Locals, Blocks: s.Blocks, Marks: s.Marks, Intents: slices.Delete(slices.Clone(s.Intents), i, i+1)}); after != before {
			t.Fatal("one From shares something: ", after)
		}
	}
}

// heap: how many bytes are kept.
func heap() int {
	runtime.GC()
	var m runtime.MemStats
	runtime.ReadMemStats(&m)
	return int(m.HeapAlloc)
}

// TestP1501KeepsNoMore: the calls keep nothing, but the disk its file.
func TestP1501KeepsNoMore(t *testing.T) {
	s := full()
	d := disk(t, api.MaxBytes)
	wantE(t, "Save", manifest.Save(d, s), api.OK)
	ahead := heap()
	for i := range 300 {
		s.Marks[999].At = i
		b, e := manifest.Put(s)
		wantE(t, "Put", e, api.OK)
		manifest.Get(b)
		manifest.Get(b[:len(b)-1-i])
		manifest.Used(s)
		wantE(t, fmt.Sprint("Save ", i), manifest.Save(d, s), api.OK)
		manifest.Load(d)
	}
	if more := heap() - ahead; more > 1<<20 {
		t.Errorf("%d bytes more are kept", more)
	}
	runtime.KeepAlive(s)
	runtime.KeepAlive(d)
}

// TestP1501LongLists: a list that is said to be long takes no room ahead of being read.
func TestP1501LongLists(t *testing.T) {
	for _, n := range []int{1 << 20, 1 << 40, 1<<56 - 1} {
		for lists := range 4 {
			l := [][]byte{number(1), number(0), number(0)}
			for range lists {
				l = append(l, number(0))
			}
			wantNone(t, "a long list", frame(kind, slices.Concat(append(l, number(n))...)))
			wantNone(t, "a long list", frame(kind, slices.Concat(append(l, number(n), make([]byte, 100000))...)))
		}
	}
}
