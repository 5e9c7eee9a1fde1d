package postings_test

import (
	"bytes"
	"math"
	"math/rand/v2"
	"slices"
	"strconv"
	"testing"

	"icehouse/api"
	"icehouse/codec"
	"icehouse/postings"
)

// idEnd: the first number that is too great.
const idEnd = 1 << 40

func number(n int) []byte { b, _ := codec.Number(n); return b }

// written: the bytes of a list, whether it may be or not (its numbers rising, none below 0).
func written(l []int) []byte {
	b := number(len(l))
	for i, id := range l {
		if i == 0 {
			b = append(b, number(id)...)
			continue
		}
		b = append(b, number(id-l[i-1]-1)...)
	}
	return b
}

// steps: n numbers, from first on, each as much above the one ahead of it.
func steps(first, n, step int) []int {
	l := []int{}
	for i := range n {
		l = append(l, first+i*step)
	}
	return l
}

// rights: lists that may be.
func rights() [][]int {
	return [][]int{
		nil, {}, {0}, {1}, {0, 1}, {0, 2}, {5, 6, 9}, {idEnd - 1}, {0, idEnd - 1}, {idEnd - 2, idEnd - 1},
		{127, 255, 383}, {128, 257, 386}, {1 << 20, 1<<20 + 1, 1 << 39},
		steps(0, 127, 1), steps(7, 128, 3),
		steps(0, api.MaxList-1, 1), steps(0, api.MaxList, 1), steps(3, api.MaxList, 200),
		steps(idEnd-api.MaxList, api.MaxList, 1), steps(0, api.MaxList, 1<<24),
	}
}

// wrongs: lists that may not be, but whose bytes could be written.
func wrongs() [][]int {
	return [][]int{
		{idEnd}, {idEnd + 1}, {0, idEnd}, {idEnd - 1, idEnd}, {idEnd, idEnd + 1}, {1<<56 - 1}, {3, 1 << 56}, {3, 1 << 55, 1 << 56},
		steps(0, api.MaxList+1, 1), steps(0, 3*api.MaxList, 2), steps(idEnd-api.MaxList+1, api.MaxList, 1),
	}
}

// beyond: lists that may not be, and that have no bytes.
func beyond() [][]int {
	return [][]int{
		{-1}, {-2}, {math.MinInt}, {-1, 0}, {-5, 5}, {0, -1}, {math.MinInt, math.MaxInt}, {1 << 56}, {math.MaxInt}, {0, math.MaxInt},
		{math.MaxInt, math.MinInt}, {3, 3}, {0, 0}, {4, 3}, {1, 2, 2}, {1, 1, 2}, {1, 3, 2}, {idEnd - 1, 0},
		append(steps(0, api.MaxList-1, 1), 0), append([]int{1}, steps(0, api.MaxList-1, 1)...),
	}
}

// anyLists: lists that rise, fall, have numbers twice, and reach to the ends of all numbers.
func anyLists() [][]int {
	l := [][]int{
		{3, 1, 2}, {9, 9, 9}, {5, 5, 4, 4, 5}, {-3, -3, 0, -7}, {math.MaxInt, 0, math.MinInt}, {math.MinInt, math.MinInt + 1, -1, 0, 1, math.MaxInt - 1, math.MaxInt},
		{-1}, {math.MinInt}, {math.MaxInt}, {1, 3, 5}, {3, 4, 5}, {2, 4, 6}, {1, 2}, {4, 3, 2, 1, 0, -1},
	}
	r := rand.New(rand.NewPCG(5, 1))
	for range 40 {
		l = append(l, jumble(r, r.IntN(12)))
	}
	return append(l, nil, []int{}, []int{0}, []int{5, 6, 9}, []int{0, idEnd - 1})
}

// jumble: n numbers by chance, of few, so that many are there twice.
func jumble(r *rand.Rand, n int) []int {
	l := []int{}
	for range n {
		l = append(l, r.IntN(13)-4)
	}
	return l
}

// among: the numbers of a and b for which tell says so, one by one, rising.
func among(a, b []int, tell func(inA, inB bool) bool) []int {
	want := []int{}
	for _, id := range slices.Concat(a, b) {
		at := 0
		for at < len(want) && want[at] < id {
			at++
		}
		there := at < len(want) && want[at] == id
		if !there && tell(slices.Contains(a, id), slices.Contains(b, id)) {
			want = slices.Insert(want, at, id)
		}
	}
	return want
}

func inBoth(inA, inB bool) bool { return inA && inB }

func inOne(inA, inB bool) bool { return inA || inB }

func inFirst(inA, inB bool) bool { return inA && !inB }

// head: not more than can be read of a list.
func head(l []int) []int { return l[:min(len(l), 20)] }

func wantList(t *testing.T, what string, got, want []int) {
	t.Helper()
	if !slices.Equal(got, want) {
		t.Errorf("%s: %v (%d), want %v (%d)", what, head(got), len(got), head(want), len(want))
	}
}

func wantPut(t *testing.T, l []int, wantB []byte, wantE api.Errno) {
	t.Helper()
	if b, e := postings.Put(l); e != wantE || !bytes.Equal(b, wantB) {
		t.Errorf("Put(%v): % x %d, want % x %d", head(l), b[:min(len(b), 40)], e, wantB[:min(len(wantB), 40)], wantE)
	}
}

func wantGet(t *testing.T, b []byte, want []int) {
	t.Helper()
	if l, e := postings.Get(b); e != api.OK || !slices.Equal(l, want) {
		t.Errorf("Get(% x): %v %d, want %v", b[:min(len(b), 40)], head(l), e, head(want))
	}
}

func wantNone(t *testing.T, what string, b []byte) {
	t.Helper()
	if l, e := postings.Get(b); e != api.ErrForm || len(l) != 0 {
		t.Errorf("%s: Get(% x): %v %d, want ErrForm and nothing", what, b[:min(len(b), 40)], head(l), e)
	}
}

// P502

func TestP502Right(t *testing.T) {
	for _, l := range rights() {
		if !postings.Right(l) {
			t.Errorf("%v (%d) may be", head(l), len(l))
		}
	}
	for _, l := range append(wrongs(), beyond()...) {
		if postings.Right(l) {
			t.Errorf("%v (%d) may not be", head(l), len(l))
		}
	}
}

// mayBe: what Right should say, each two numbers held against each other.
func mayBe(l []int) bool {
	for i, id := range l {
		if id < 0 || id > idEnd-1 {
			return false
		}
		for _, ahead := range l[:i] {
			if ahead >= id {
				return false
			}
		}
	}
	return len(l) <= api.MaxList
}

func TestP502RightOfAny(t *testing.T) {
	r := rand.New(rand.NewPCG(5, 2))
	found := [2]int{}
	for range 50000 {
		first := []int{0, -1, 100, idEnd - 6}[r.IntN(4)]
		l := []int{}
		for range r.IntN(5) {
			first += 1 + r.IntN(3) - r.IntN(8)/6
			l = append(l, first)
		}
		want := mayBe(l)
		if postings.Right(l) != want {
			t.Fatalf("%v: %v", l, !want)
		}
		if want {
			found[1]++
		} else {
			found[0]++
		}
	}
	if min(found[0], found[1]) < 5000 {
		t.Error("too few of one kind:", found)
	}
}

func TestP502Sets(t *testing.T) {
	for _, c := range []struct{ a, b, and, or, not []int }{
		{[]int{1, 3, 5}, []int{3, 4, 5}, []int{3, 5}, []int{1, 3, 4, 5}, []int{1}},
		{[]int{3, 4, 5}, []int{1, 3, 5}, []int{3, 5}, []int{1, 3, 4, 5}, []int{4}},
		{nil, nil, nil, nil, nil},
		{nil, []int{1, 2}, nil, []int{1, 2}, nil},
		{[]int{1, 2}, nil, nil, []int{1, 2}, []int{1, 2}},
		{[]int{1, 2}, []int{}, nil, []int{1, 2}, []int{1, 2}},
		{[]int{1, 2}, []int{1, 2}, []int{1, 2}, []int{1, 2}, nil},
		{[]int{1, 2}, []int{3, 4}, nil, []int{1, 2, 3, 4}, []int{1, 2}},
		{[]int{3, 4}, []int{1, 2}, nil, []int{1, 2, 3, 4}, []int{3, 4}},
		{[]int{2}, []int{1, 2, 3}, []int{2}, []int{1, 2, 3}, nil},
		{[]int{1, 2, 3}, []int{2}, []int{2}, []int{1, 2, 3}, []int{1, 3}},
		// Not rising, and twice, in one and in the other.
		{[]int{5, 1, 3, 1}, []int{4, 5, 5, 3}, []int{3, 5}, []int{1, 3, 4, 5}, []int{1}},
		{[]int{2, 2, 2}, nil, nil, []int{2}, []int{2}},
		{nil, []int{2, 1, 2}, nil, []int{1, 2}, nil},
		{[]int{9, 1, 9}, []int{1, 1}, []int{1}, []int{1, 9}, []int{9}},
		// Below 0, and at the ends of all numbers.
		{[]int{-1, -5, 2}, []int{-5, 0}, []int{-5}, []int{-5, -1, 0, 2}, []int{-1, 2}},
		{[]int{math.MaxInt, math.MinInt}, []int{0, math.MinInt}, []int{math.MinInt}, []int{math.MinInt, 0, math.MaxInt}, []int{math.MaxInt}},
		{[]int{idEnd, idEnd - 1}, []int{1 << 60, idEnd}, []int{idEnd}, []int{idEnd - 1, idEnd, 1 << 60}, []int{idEnd - 1}},
	} {
		wantList(t, "And", postings.And(c.a, c.b), c.and)
		wantList(t, "Or", postings.Or(c.a, c.b), c.or)
		wantList(t, "Not", postings.Not(c.a, c.b), c.not)
	}
}

func TestP502SetsOfAny(t *testing.T) {
	l := anyLists()
	for _, a := range l {
		for _, b := range l {
			wantList(t, "And", postings.And(a, b), among(a, b, inBoth))
			wantList(t, "Or", postings.Or(a, b), among(a, b, inOne))
			wantList(t, "Not", postings.Not(a, b), among(a, b, inFirst))
		}
	}
}

// TestP502LongSets: lists longer than one that may be are sets as well.
func TestP502LongSets(t *testing.T) {
	const n = 6 * api.MaxList
	even, third := steps(-6, n/2, 2), steps(-6, n/3, 3)
	slices.Reverse(third)
	inOne := 0
	for i := range n {
		if i%2 == 0 || i%3 == 0 {
			inOne++
		}
	}
	both := steps(-6, n/6, 6)
	wantList(t, "And", postings.And(even, third), both)
	or := postings.Or(third, even)
	if len(or) != inOne || !slices.IsSorted(or) || len(slices.Compact(or)) != inOne {
		t.Error("Or", len(or))
	}
	not := postings.Not(third, even)
	wantList(t, "Not", not, steps(-3, n/6, 6))
}

func TestP502Put(t *testing.T) {
	wantPut(t, []int{5, 6, 9}, []byte{3, 5, 0, 2}, api.OK)
	wantPut(t, nil, []byte{0}, api.OK)
	wantPut(t, []int{}, []byte{0}, api.OK)
	wantPut(t, []int{0}, []byte{1, 0}, api.OK)
	wantPut(t, []int{300, 429, 600}, []byte{3, 172, 2, 128, 1, 170, 1}, api.OK)
	wantPut(t, []int{0, idEnd - 1}, []byte{2, 0, 254, 255, 255, 255, 255, 31}, api.OK)
	for _, l := range rights() {
		wantPut(t, l, written(l), api.OK)
	}
	for _, l := range append(wrongs(), beyond()...) {
		wantPut(t, l, nil, api.ErrArg)
	}
}

func TestP502Get(t *testing.T) {
	wantGet(t, []byte{3, 5, 0, 2}, []int{5, 6, 9})
	wantGet(t, []byte{0}, nil)
	for _, l := range rights() {
		b := written(l)
		wantGet(t, b, l)
		for n := 0; n < len(b); n += 1 + len(b)/40 {
			wantNone(t, "cut off", b[:n])
		}
		wantNone(t, "the last byte cut off", b[:len(b)-1])
		for _, more := range []byte{0, 1, 127, 128, 255} {
			wantNone(t, "more behind", append(bytes.Clone(b), more))
		}
		wantNone(t, "twice the same", append(bytes.Clone(b), b...))
	}
	// Written well, but they may not be.
	for _, l := range wrongs() {
		wantNone(t, "what may not be", written(l))
	}
}

func TestP502GetNone(t *testing.T) {
	const huge = "\xff\xff\xff\xff\xff\xff\xff\x7f"
	const most = "\xff\xff\xff\xff\xff\x1f" // 2^40 - 1
	for _, s := range []string{
		"", "\x01", "\x80", "\xff", "\x02\x05", "\x03\x05\x00",
		// Fewer or more numbers than it says.
		"\x00\x05", "\x01\x05\x00", "\x02\x05\x00\x02",
		// Numbers that are not written as numbers are.
		"\x80\x00", "\x81\x00\x05", "\x01\x85\x00", "\x02\x05\x80\x00", "\x02\x85\x00\x00", "\x01\xff" + huge,
		// Numbers past the edge: the first one, and one behind others.
		"\x01\x80\x80\x80\x80\x80\x20", "\x02" + most + "\x00", "\x02\x00" + most, "\x03\x00\x00" + most,
		// Huge ones.
		huge, huge + "\x05", "\x01" + huge, "\x02\x00" + huge, "\x02" + huge + huge,
		// One more than a list has, and far more, with nothing behind.
		"\x81\x80\x04", "\x80\x80\x04", "\xff\xff\xff\xff\x0f",
	} {
		wantNone(t, strconv.Quote(s), []byte(s))
	}
	wantGet(t, []byte("\x01"+most), []int{idEnd - 1})
	wantNone(t, "nil", nil)
	wantNone(t, "many zeros", make([]byte, 1<<20))
	wantNone(t, "too many", append(number(api.MaxList+1), make([]byte, api.MaxList+1)...))
	wantGet(t, append(number(api.MaxList), make([]byte, api.MaxList)...), steps(0, api.MaxList, 1))
}

// TestP502GetRound: steps whose sum wraps round, and ends where a number may be.
func TestP502GetRound(t *testing.T) {
	// 256 times 2^56 are 2^64: behind them a number is where it was.
	round := bytes.Repeat(number(1<<56-1), 256)
	wantNone(t, "back at the first one", slices.Concat(number(257), number(5), round))
	wantNone(t, "above the first one", slices.Concat(number(258), number(5), round, number(0)))
	wantNone(t, "from the first one on", slices.Concat(number(257), round, number(5)))
}

// bent: b with a few bytes changed, put in, or taken out.
func bent(r *rand.Rand, b []byte) []byte {
	b = bytes.Clone(b)
	for range r.IntN(3) {
		at := r.IntN(len(b))
		switch r.IntN(3) {
		case 0:
			b[at] = []byte{0, 1, 2, 3, 31, 32, 127, 128, 129, 255}[r.IntN(10)]
		case 1:
			b = slices.Insert(b, at, byte(r.IntN(256)))
		default:
			b = append(slices.Delete(b, at, at+1), 4)
		}
	}
	return b
}

// random: a list that may be.
func random(r *rand.Rand) []int {
	l := []int{}
	step := []int{1, 3, 300, 1 << 20, 1 << 37}[r.IntN(5)]
	for id := r.IntN(step); len(l) < 6 && id < idEnd; id += 1 + r.IntN(step) {
		l = append(l, id)
	}
	return l[:r.IntN(len(l)+1)]
}

// TestP502OneForm: bytes that are got as a list are what is put of it.
func TestP502OneForm(t *testing.T) {
	r := rand.New(rand.NewPCG(5, 3))
	good := [2]int{}
	for range 100000 {
		of := random(r)
		b := bent(r, written(of))
		l, e := postings.Get(b)
		if e != api.OK {
			wantNone(t, "bent", b)
			continue
		}
		if !mayBe(l) || !bytes.Equal(written(l), b) {
			t.Fatalf("% x: %v", b, l)
		}
		if slices.Equal(l, of) {
			good[0]++
		} else {
			good[1]++
		}
	}
	if min(good[0], good[1]) < 1000 {
		t.Error("too few were lists, as they were or others:", good)
	}
}

func TestP502ThereAndBack(t *testing.T) {
	there := func(l []int) {
		b, e := postings.Put(l)
		if e != api.OK {
			t.Fatalf("%v: %d", head(l), e)
		}
		wantGet(t, b, l)
	}
	for _, l := range rights() {
		there(l)
	}
	r := rand.New(rand.NewPCG(5, 4))
	for range 20000 {
		there(random(r))
	}
}

// P505

// TestP505Laws: of any two lists, told by the calls alone.
func TestP505Laws(t *testing.T) {
	and, or, not := postings.And, postings.Or, postings.Not
	l := anyLists()
	for _, a := range l {
		set := or(a, nil)
		for i := range set {
			if i > 0 && set[i-1] >= set[i] {
				t.Fatalf("%v does not rise", set)
			}
		}
		wantList(t, "a and a", and(a, a), set)
		wantList(t, "a or a", or(a, a), set)
		wantList(t, "a not a", not(a, a), nil)
		wantList(t, "a not nothing", not(a, nil), set)
		wantList(t, "a and nothing", and(a, nil), nil)
		for _, b := range l {
			wantList(t, "Or of And and Not is the first", or(and(a, b), not(a, b)), set)
			wantList(t, "And turned round", and(a, b), and(b, a))
			wantList(t, "Or turned round", or(a, b), or(b, a))
			wantList(t, "in both is in no Not", and(and(a, b), not(a, b)), nil)
			wantList(t, "in both is in neither Not", and(and(a, b), not(b, a)), nil)
			wantList(t, "the three parts of Or", or(or(not(a, b), and(a, b)), not(b, a)), or(a, b))
			wantList(t, "And lies in a", and(and(a, b), a), and(a, b))
			wantList(t, "a lies in Or", and(or(a, b), a), set)
			wantList(t, "Not of Not is And", not(a, not(a, b)), and(a, b))
		}
	}
}

// TestP505ThreeLists: the laws of three.
func TestP505ThreeLists(t *testing.T) {
	and, or, not := postings.And, postings.Or, postings.Not
	r := rand.New(rand.NewPCG(5, 5))
	for range 5000 {
		a, b, c := jumble(r, r.IntN(12)), jumble(r, r.IntN(12)), jumble(r, r.IntN(12))
		wantList(t, "And in any turn", and(and(a, b), c), and(a, and(b, c)))
		wantList(t, "Or in any turn", or(or(a, b), c), or(a, or(b, c)))
		wantList(t, "And over Or", and(a, or(b, c)), or(and(a, b), and(a, c)))
		wantList(t, "Or over And", or(a, and(b, c)), and(or(a, b), or(a, c)))
		wantList(t, "Not of Or", not(a, or(b, c)), and(not(a, b), not(a, c)))
		wantList(t, "Not of And", not(a, and(b, c)), or(not(a, b), not(a, c)))
	}
}
