package manifest_test

import (
	"fmt"
	"math/rand/v2"
	"slices"
	"strings"
	"testing"

	"icehouse/api"
	"icehouse/manifest"
	"icehouse/planner"
)

// several: States that may be, of several sizes.
func several() []manifest.State {
	r := rand.New(rand.NewPCG(15, 2))
	l := []manifest.State{first(), {Next: 300, Sure: 200, Seq: 200}, some(), full()}
	for range 20 {
		l = append(l, anyState(r))
	}
	return l
}

// wantGet: bytes of a State.
func wantGet(t *testing.T, what string, b []byte, want manifest.State) {
	t.Helper()
	s, e := manifest.Get(b)
	if e != api.OK || told(s) != told(want) {
		t.Fatalf("%s: Get: %.2000s %d, want %.2000s", what, told(s), e, told(want))
	}
}

// P1502

// TestP1502Bytes: as they are written out.
func TestP1502Bytes(t *testing.T) {
	for what, c := range map[string]struct {
		s  manifest.State
		in []byte
	}{
		"the first":     {first(), []byte{1, 0, 0, 0, 0, 0, 0}},
		"other numbers": {manifest.State{Next: 300, Sure: 7, Seq: 128}, []byte{172, 2, 7, 128, 1, 0, 0, 0, 0}},
		"the greatest":  {manifest.State{Next: most, Sure: most, Seq: most}, []byte{255, 255, 255, 255, 255, 31, 255, 255, 255, 255, 255, 31, 255, 255, 255, 255, 255, 31, 0, 0, 0, 0}},
		"a Local":       {manifest.State{Next: 9, Seq: 8, Locals: []manifest.Local{{ID: 5, First: 6, Last: 8, Bytes: 200}}}, []byte{9, 0, 8, 1, 5, 6, 8, 200, 1, 0, 0, 0}},
		"a Block": {
			manifest.State{Next: 9, Seq: 8, Blocks: []planner.Meta{{ID: 5, Least: 50, Most: 70, First: 6, Last: 8, Rows: 3, Bytes: 200, Level: 2}}},
			[]byte{9, 0, 8, 0, 1, 9, 5, 50, 20, 6, 2, 3, 200, 1, 2, 0, 0},
		},
		"Marks": {manifest.State{Next: 9, Marks: []manifest.Mark{{ID: 5, At: 300}, {ID: 7, At: 0}}}, []byte{9, 0, 0, 0, 0, 0, 2, 5, 172, 2, 7, 0}},
		"Intents": {
			manifest.State{
				Next: 20, Sure: 1, Seq: 1,
				Locals:  []manifest.Local{{ID: 3, First: 1, Last: 1}},
				Blocks:  []planner.Meta{{ID: 4, First: 1, Last: 1, Rows: 1}, {ID: 6, First: 1, Last: 1, Rows: 1}},
				Intents: []manifest.Intent{{Kind: manifest.Pack, ID: 8, From: []int{6, 4}}, {Kind: manifest.Ship, ID: 9, From: []int{3}}},
			},
			[]byte{20, 1, 1, 1, 3, 1, 1, 0, 2, 8, 4, 0, 0, 1, 0, 1, 0, 0, 8, 6, 0, 0, 1, 0, 1, 0, 0, 2, 2, 8, 2, 6, 4, 1, 9, 1, 3, 0},
		},
	} {
		b, e := manifest.Put(c.s)
		if string(b) != string(frame(9, c.in)) || e != api.OK {
			t.Errorf("%s: Put: %v %d, want %v", what, b, e, frame(9, c.in))
		}
		wantGet(t, what, frame(9, c.in), c.s)
	}
}

// TestP1502CutOff: bytes that end too early, and that go on.
func TestP1502CutOff(t *testing.T) {
	for i, s := range several() {
		b := bytesOf(s)
		wantGet(t, "all of it", b, s)
		step := 1 + len(b)/500
		for n := 0; n < len(b); n += step {
			wantNone(t, fmt.Sprint("cut off ", i), b[:n])
		}
		wantNone(t, "cut off at the end", b[:len(b)-1])
		wantNone(t, "cut off at the beginning", b[1:])
		for c := range 256 {
			wantNone(t, "a byte more", append(slices.Clone(b), byte(c)))
			wantNone(t, "a byte ahead", append([]byte{byte(c)}, b...))
		}
		wantNone(t, "twice", append(slices.Clone(b), b...))
		// The same within the frame, with its sum.
		in := slices.Concat(pieces(s)...)
		for n := 0; n < len(in); n += step {
			wantNone(t, fmt.Sprint("cut off within ", i), frame(kind, in[:n]))
		}
		for _, c := range []byte{0, 1, 128, 255} {
			wantNone(t, "a byte more within", frame(kind, append(slices.Clone(in), c)))
		}
		wantNone(t, "twice within", frame(kind, append(slices.Clone(in), in...)))
	}
	for _, text := range []string{"", "\x00", "\xa5", "manifest", "\xa5\x09", strings.Repeat("\xa5", 100), strings.Repeat("\x00", 1<<21)} {
		wantNone(t, "any", []byte(text))
	}
	wantNone(t, "nil", nil)
}

// TestP1502OneByte: one byte that is another one: the sum tells it.
func TestP1502OneByte(t *testing.T) {
	for _, s := range several() {
		b := bytesOf(s)
		step, others := 1+len(b)/500, []int{1, 2, 127, 128, 255}
		if len(b) < 300 {
			others = nil
			for c := range 255 {
				others = append(others, c+1)
			}
		}
		for i := 0; i < len(b); i += step {
			for _, c := range others {
				b[i] ^= byte(c)
				wantNone(t, fmt.Sprint("byte ", i), b)
				b[i] ^= byte(c)
			}
		}
	}
}

// TestP1502OneByteWithin: one byte that is another one, with the right sum: a
// State that is written so, or none.
func TestP1502OneByteWithin(t *testing.T) {
	right, wrong := 0, 0
	for _, s := range several() {
		in := slices.Concat(pieces(s)...)
		if len(in) > 300 {
			continue
		}
		for i := range in {
			for c := range 256 {
				old := in[i]
				in[i] = byte(c)
				b := frame(kind, in)
				in[i] = old
				got, e := manifest.Get(b)
				if e != api.OK {
					wantNone(t, "a byte within", b)
					wrong++
					continue
				}
				again, e := manifest.Put(got)
				if string(again) != string(b) || e != api.OK || !mayBe(got) {
					t.Fatalf("Put(Get(%v)): %v %d", b, again, e)
				}
				right++
			}
		}
	}
	if right < 1000 || wrong < 1000 {
		t.Error(right, wrong)
	}
}

func TestP1502Kinds(t *testing.T) {
	for _, s := range several() {
		in := slices.Concat(pieces(s)...)
		for other := range 256 {
			if other != kind {
				wantNone(t, fmt.Sprint("kind ", other), frame(other, in))
			}
		}
	}
}

// TestP1502Long: each number, and each length of a block's bytes, with a byte more than need be.
func TestP1502Long(t *testing.T) {
	for _, s := range several() {
		l := pieces(s)
		step := 1 + len(l)/300
		for i := 0; i < len(l); i += step {
			old := l[i]
			end := slices.IndexFunc(old, func(c byte) bool { return c < 128 })
			l[i] = append(slices.Clone(old[:end]), old[end]|128, 0)
			l[i] = append(l[i], old[end+1:]...)
			wantNone(t, fmt.Sprint("long number ", i), frame(kind, slices.Concat(l...)))
			l[i] = old
		}
	}
	// Within a block's bytes, with the length that they have then.
	m := planner.Meta{ID: 5, Least: 50, Most: 70, First: 6, Last: 8, Rows: 3, Bytes: 200, Level: 2}
	numbers := []int{5, 50, 20, 6, 2, 3, 200, 2}
	with := func(b []byte) []byte {
		return frame(kind, slices.Concat([]byte{9, 0, 8, 0, 1}, number(len(b)), b, []byte{0, 0}))
	}
	wantGet(t, "a block", with(metaBytes(m)), manifest.State{Next: 9, Seq: 8, Blocks: []planner.Meta{m}})
	for i := range numbers {
		var b []byte
		for j, n := range numbers {
			if i == j {
				b = append(b, long(n)...)
			} else {
				b = append(b, number(n)...)
			}
		}
		wantNone(t, fmt.Sprint("long number of a block ", i), with(b))
	}
	b := metaBytes(m)
	wantNone(t, "a block of no bytes", with(nil))
	wantNone(t, "a block's bytes, cut off", with(b[:len(b)-1]))
	wantNone(t, "a block's bytes, and one more", with(append(slices.Clone(b), 0)))
	wantNone(t, "a block's bytes, twice", with(append(slices.Clone(b), b...)))
	wantNone(t, "a long text", with(make([]byte, 65536)))
	wantNone(t, "a text that is too long", with(make([]byte, 65537)))
}

// TestP1502Lengths: lists that are said to be longer, or shorter, than they are.
func TestP1502Lengths(t *testing.T) {
	for what, at := range map[string]int{"Locals": 3, "Blocks": 16, "Intents": 22, "From of the first": 25, "From of the second": 29, "From of the third": 34, "Marks": 38} {
		l := pieces(some())
		is := int(l[at][0])
		if want := map[string]int{"Locals": 3, "Blocks": 5, "Intents": 3, "From of the first": 1, "From of the second": 2, "From of the third": 3, "Marks": 3}[what]; is != want || len(l[at]) != 1 {
			t.Fatalf("%s: there are %d, want %d", what, is, want)
		}
		for _, n := range []int{0, 1, 2, 3, 4, 5, 6, 16, 17, 999, 1000, 1001, 65536, 65537, 1 << 20, 1 << 31, 1 << 40, 1<<56 - 1} {
			if n == is {
				continue
			}
			l[at] = number(n)
			wantNone(t, fmt.Sprintf("%s are said to be %d", what, n), frame(kind, slices.Concat(l...)))
		}
		l[at] = []byte{255, 255, 255, 255, 255, 255, 255, 255, 127}
		wantNone(t, what, frame(kind, slices.Concat(l...)))
	}
	// More than may be, and as many as are said.
	for _, n := range []int{1001, 20000, 300000} {
		marks := manifest.State{Next: most}
		for id := range n {
			marks.Marks = append(marks.Marks, manifest.Mark{ID: 1 + id%100})
		}
		wantNone(t, "Marks", bytesOf(marks))
		from := manifest.State{Next: most, Seq: 1, Blocks: []planner.Meta{block(1, 1, 1), block(2, 1, 1)}, Intents: []manifest.Intent{{Kind: manifest.Pack, ID: 3}}}
		for i := range n {
			from.Intents[0].From = append(from.Intents[0].From, 1+i%2)
		}
		wantNone(t, "From", bytesOf(from))
	}
}

// P1505

func TestP1505ThereAndBack(t *testing.T) {
	r := rand.New(rand.NewPCG(15, 3))
	kinds := [6]int{}
	for range 5000 {
		s := anyState(r)
		b, e := manifest.Put(s)
		wantE(t, "Put", e, api.OK)
		if string(b) != string(bytesOf(s)) {
			t.Fatalf("Put of %s: %v, want %v", told(s), b, bytesOf(s))
		}
		wantGet(t, "any", b, s)
		for i, n := range []int{len(s.Locals), len(s.Blocks), len(s.Marks)} {
			kinds[i] += min(1, n)
		}
		for _, x := range s.Intents {
			kinds[2+x.Kind]++
		}
		kinds[5]++
	}
	if slices.Min(kinds[:]) < 1000 {
		t.Error("too few of a kind: ", kinds)
	}
	for _, s := range several() {
		b, e := manifest.Put(s)
		wantE(t, "Put", e, api.OK)
		wantGet(t, "several", b, s)
	}
}

// TestP1505Bytes: of any bytes Get tells an error, or what is written as the same bytes.
func TestP1505Bytes(t *testing.T) {
	r := rand.New(rand.NewPCG(15, 4))
	right := 0
	for range 20000 {
		in := slices.Concat(pieces(anyState(r))...)
		for range r.IntN(3) {
			i := r.IntN(len(in))
			switch r.IntN(4) {
			case 0:
				in = slices.Delete(in, i, i+1)
			case 1:
				in = slices.Insert(in, i, byte(r.IntN(256)))
			default:
				in[i] = byte(r.IntN(256))
			}
			in = append(in, byte(r.IntN(3)))[:max(1, len(in))]
		}
		b := frame(kind, in)
		s, e := manifest.Get(b)
		if e != api.OK {
			wantNone(t, "any", b)
			continue
		}
		right++
		if !mayBe(s) || string(bytesOf(s)) != string(b) {
			t.Fatalf("%v is told to be %s", b, told(s))
		}
	}
	if right < 6000 {
		t.Error("too few were right: ", right)
	}
}
