package manifest_test

import (
	"fmt"
	"math"
	"math/rand/v2"
	"slices"
	"testing"

	"icehouse/api"
	"icehouse/manifest"
	"icehouse/planner"
)

// written: whether all its numbers can be written.
func written(s manifest.State) bool {
	ok := in(s.Next, 0, 1<<56-1) && in(s.Sure, 0, 1<<56-1) && in(s.Seq, 0, 1<<56-1)
	check := func(l ...int) {
		for _, n := range l {
			ok = ok && in(n, 0, 1<<56-1)
		}
	}
	for _, x := range s.Locals {
		check(x.ID, x.First, x.Last, x.Bytes)
	}
	for _, m := range s.Blocks {
		check(m.ID, m.Least, m.Most-m.Least, m.First, m.Last-m.First, m.Rows, m.Bytes, m.Level)
	}
	for _, x := range s.Intents {
		check(x.Kind, x.ID)
		check(x.From...)
	}
	for _, x := range s.Marks {
		check(x.ID, x.At)
	}
	return ok
}

// wantState: whether it may be, and so what each call says of it.
func wantState(t *testing.T, what string, s manifest.State, may bool) {
	t.Helper()
	if may != mayBe(s) {
		t.Fatalf("%s: the model thinks otherwise of %.2000s", what, told(s))
	}
	if got := manifest.Right(s); got != may {
		t.Errorf("%s: Right: %v of %.2000s", what, got, told(s))
	}
	if got := manifest.Used(s); !slices.Equal(got, used(s)) {
		t.Errorf("%s: Used: %v, want %v", what, got, used(s))
	}
	b, e := manifest.Put(s)
	d := disk(t, api.MaxBytes)
	lay(t, d, "manifest", "old")
	if !may {
		if len(b) > 0 || e != api.ErrArg {
			t.Errorf("%s: Put: %q %d", what, b, e)
		}
		if written(s) {
			wantNone(t, what, bytesOf(s))
		}
		wantE(t, what+": Save", manifest.Save(d, s), api.ErrArg)
		if has(d) != `manifest "old" 0` {
			t.Errorf("%s: Save left %s", what, has(d))
		}
		return
	}
	if string(b) != string(bytesOf(s)) || e != api.OK {
		t.Errorf("%s: Put: %q %d, want %q", what, b, e, bytesOf(s))
	}
	got, e := manifest.Get(bytesOf(s))
	wantE(t, what+": Get", e, api.OK)
	wantTold(t, what+": Get", got, s)
	wantE(t, what+": Save", manifest.Save(d, s), api.OK)
	got, e = manifest.Load(d)
	wantE(t, what+": Load", e, api.OK)
	wantTold(t, what+": Load", got, s)
}

// wantNone: bytes that are no State's.
func wantNone(t *testing.T, what string, b []byte) {
	t.Helper()
	s, e := manifest.Get(b)
	if e != api.ErrForm || s.Next != 0 || s.Sure != 0 || s.Seq != 0 || len(s.Locals)+len(s.Blocks)+len(s.Intents)+len(s.Marks) > 0 {
		t.Errorf("%s: Get(%.200q): %.300s %d", what, b, told(s), e)
	}
}

// other: some() with something changed, and whether it may be then.
type other struct {
	what   string
	change func(s *manifest.State)
	may    bool
}

func wantOthers(t *testing.T, l []other) {
	t.Helper()
	for _, c := range l {
		s := some()
		c.change(&s)
		wantState(t, c.what, s, c.may)
	}
}

// P1502

func TestP1502Some(t *testing.T) {
	wantState(t, "the first", first(), true)
	wantState(t, "some", some(), true)
	wantState(t, "full", full(), true)
	wantState(t, "zero", manifest.State{}, false)
	empty := manifest.State{Next: 1, Locals: []manifest.Local{}, Blocks: []planner.Meta{}, Intents: []manifest.Intent{}, Marks: []manifest.Mark{}}
	wantState(t, "empty lists", empty, true)
	var l []other
	for mask := range 8 { // each kind alone, and with each other one
		l = append(l, other{fmt.Sprint("without ", mask), func(s *manifest.State) {
			s.Intents = nil
			if mask&1 > 0 {
				s.Locals = nil
			}
			if mask&2 > 0 {
				s.Blocks = nil
			}
			if mask&4 > 0 {
				s.Marks = nil
			}
		}, true})
	}
	wantOthers(t, l)
}

func TestP1502Numbers(t *testing.T) {
	for _, n := range []int{1, 2, 1000, most - 1, most} {
		wantState(t, "Next", manifest.State{Next: n}, true)
	}
	for _, n := range []int{math.MinInt, -most, -1, 0, most + 1, most + 2, 1 << 56, math.MaxInt} {
		wantState(t, "Next", manifest.State{Next: n}, false)
	}
	for _, n := range []int{0, 1, 7, most - 1, most} {
		wantState(t, "Seq", manifest.State{Next: 1, Seq: n}, true)
		wantState(t, "Sure", manifest.State{Next: 1, Seq: n, Sure: n}, true)
		wantState(t, "Sure above Seq", manifest.State{Next: 1, Seq: n, Sure: n + 1}, false)
		wantState(t, "Sure above Seq", manifest.State{Next: 1, Seq: n, Sure: math.MaxInt}, false)
	}
	for _, n := range []int{math.MinInt, -most, -1, most + 1, most + 2, 1 << 56, math.MaxInt} {
		wantState(t, "Seq", manifest.State{Next: 1, Seq: n}, false)
		wantState(t, "Sure", manifest.State{Next: 1, Seq: most, Sure: n}, false)
		wantState(t, "Seq and Sure", manifest.State{Next: 1, Seq: n, Sure: n}, false)
	}
	var l []other
	for next, may := range map[int]bool{1: false, 400: false, 998: false, 999: false, 1000: true, 1001: true, most: true, most + 1: false, -1: false} {
		l = append(l, other{fmt.Sprint("Next ", next), func(s *manifest.State) { s.Next = next }, may})
	}
	for seq, may := range map[int]bool{400: false, 469: false, 499: false, 500: true, 501: true, most: true} {
		l = append(l, other{fmt.Sprint("Seq ", seq), func(s *manifest.State) { s.Seq = seq }, may})
	}
	for sure, may := range map[int]bool{-1: false, 0: true, 1: true, 500: true, 501: false} {
		l = append(l, other{fmt.Sprint("Sure ", sure), func(s *manifest.State) { s.Sure = sure }, may})
	}
	wantOthers(t, l)
}

// TestP1502Counts: as many as may be, and one more.
func TestP1502Counts(t *testing.T) {
	whole := func(s *manifest.State) { *s = full() }
	for _, c := range []struct {
		what string
		one  func(s *manifest.State, id int)
	}{
		{"Locals", func(s *manifest.State, id int) { s.Locals = append(s.Locals, local(id, 1, 1)) }},
		{"Blocks", func(s *manifest.State, id int) { s.Blocks = append(s.Blocks, block(id, 1, 1)) }},
		{"Marks", func(s *manifest.State, id int) { s.Marks = append(s.Marks, manifest.Mark{ID: id}) }},
	} {
		s := manifest.State{Next: most, Seq: 1}
		for id := 1; id <= 1002; id++ {
			c.one(&s, id)
			if id > 997 || id == 500 {
				wantState(t, fmt.Sprint(id, " ", c.what), copied(s), id <= 1000)
			}
		}
		wantOthers(t, []other{
			{"one more of " + c.what, func(s *manifest.State) {
				whole(s)
				s.Locals[0].ID, s.Blocks[0].ID, s.Marks[0].ID = 1, 2, 3
				c.one(s, most-1000)
			}, false},
		})
	}
	packs := func(n, each int) func(s *manifest.State) {
		return func(s *manifest.State) {
			whole(s)
			s.Intents = nil
			for i := range n {
				x := manifest.Intent{Kind: manifest.Pack, ID: most - 20 + i}
				for j := range each {
					x.From = append(x.From, most-2001-i*20-j)
				}
				s.Intents = append(s.Intents, x)
			}
		}
	}
	ships := func(n int) func(s *manifest.State) {
		return func(s *manifest.State) {
			whole(s)
			s.Intents = nil
			for i := range n {
				s.Intents = append(s.Intents, manifest.Intent{Kind: manifest.Ship, ID: most - 20 + i, From: []int{most - 3001 - i}})
			}
		}
	}
	wantOthers(t, []other{
		{"15 to pack", packs(15, 2), true}, {"16 to pack", packs(16, 2), true}, {"17 to pack", packs(17, 2), false},
		{"15 to ship", ships(15), true}, {"16 to ship", ships(16), true}, {"17 to ship", ships(17), false},
		{"packs of none", packs(3, 0), false}, {"packs of one", packs(3, 1), false}, {"packs of two", packs(3, 2), true},
		{"packs of 15", packs(3, 15), true}, {"packs of 16", packs(3, 16), true}, {"packs of 17", packs(3, 17), false}, {"one pack of 17", packs(1, 17), false},
	})
}

// TestP1502IDs: of each list: out of order, twice, below 1, at Next and above.
func TestP1502IDs(t *testing.T) {
	lists := map[string]func(s *manifest.State) []*int{
		"Locals": func(s *manifest.State) (l []*int) {
			for i := range s.Locals {
				l = append(l, &s.Locals[i].ID)
			}
			return l
		},
		"Blocks": func(s *manifest.State) (l []*int) {
			for i := range s.Blocks {
				l = append(l, &s.Blocks[i].ID)
			}
			return l
		},
		"Intents": func(s *manifest.State) (l []*int) {
			for i := range s.Intents {
				l = append(l, &s.Intents[i].ID)
			}
			return l
		},
		"Marks": func(s *manifest.State) (l []*int) {
			for i := range s.Marks {
				l = append(l, &s.Marks[i].ID)
			}
			return l
		},
	}
	var l []other
	for what, of := range lists {
		// Intents that are from Locals and Blocks would be wrong with their IDs.
		less := func(s *manifest.State) []*int {
			if what == "Intents" {
				return of(s)
			}
			s.Intents = nil
			return of(s)
		}
		add := func(how string, change func(l []*int), may bool) {
			l = append(l, other{what + ": " + how, func(s *manifest.State) { change(less(s)) }, may})
		}
		add("as they are", func(l []*int) {}, true)
		add("the first two the other way round", func(l []*int) { *l[0], *l[1] = *l[1], *l[0] }, false)
		add("the last two the other way round", func(l []*int) { *l[len(l)-1], *l[len(l)-2] = *l[len(l)-2], *l[len(l)-1] }, false)
		add("the first two the same", func(l []*int) { *l[1] = *l[0] }, false)
		add("the last two the same", func(l []*int) { *l[len(l)-2] = *l[len(l)-1] }, false)
		add("the last one less", func(l []*int) { *l[len(l)-1] = 4 }, false)
		for _, id := range []int{0, -1, -most, math.MinInt} {
			add(fmt.Sprint("the first one ", id), func(l []*int) { *l[0] = id }, false)
		}
		for _, id := range []int{1000, 1001, most, most + 1, 1 << 56, math.MaxInt} {
			add(fmt.Sprint("the last one ", id), func(l []*int) { *l[len(l)-1] = id }, false)
		}
		add("the last one 998", func(l []*int) { *l[len(l)-1] = 998 }, true)
		for another, ofIt := range lists {
			if another == what {
				continue
			}
			for i := range 3 {
				l = append(l, other{fmt.Sprintf("%s: one has the ID of one of the %s", what, another), func(s *manifest.State) {
					if what != "Intents" && another != "Intents" {
						s.Intents = nil
					}
					ours, theirs := of(s), ofIt(s)
					*ours[min(i, len(ours)-1)] = *theirs[i]
				}, false})
			}
		}
	}
	wantOthers(t, l)
}

// TestP1502Twice: one ID in two lists, each in its order, and all else right.
func TestP1502Twice(t *testing.T) {
	with := map[string]func(s *manifest.State, id int){
		"Local":   func(s *manifest.State, id int) { s.Locals = []manifest.Local{local(id, 1, 1)} },
		"Block":   func(s *manifest.State, id int) { s.Blocks = []planner.Meta{block(id, 1, 1)} },
		"Mark":    func(s *manifest.State, id int) { s.Marks = []manifest.Mark{{ID: id}} },
		"Ship":    func(s *manifest.State, id int) { ship(s, id) },
		"Pack":    func(s *manifest.State, id int) { pack(s, id) },
		"neither": func(s *manifest.State, id int) {},
	}
	for one, put := range with {
		for another, putIt := range with {
			if one == another || one == "Local" && another == "Ship" || one == "Ship" && another == "Local" || one == "Block" && another == "Pack" || one == "Pack" && another == "Block" {
				continue
			}
			bothIntents := one == "Ship" && another == "Pack" || one == "Pack" && another == "Ship"
			if bothIntents {
				continue
			}
			apart, same := manifest.State{Next: 100, Seq: 1}, manifest.State{Next: 100, Seq: 1}
			put(&apart, 50)
			putIt(&apart, 51)
			put(&same, 50)
			putIt(&same, 50)
			wantState(t, one+" and "+another+", apart", apart, true)
			wantState(t, one+" and "+another+", the same", same, one == "neither" || another == "neither")
		}
	}
	// An Intent with the ID of what it is from, or of another one's From.
	for _, id := range []int{1, 2, 3, 4, 5} {
		s := manifest.State{Next: 100, Seq: 1, Locals: []manifest.Local{local(1, 1, 1), local(2, 1, 1)}, Blocks: []planner.Meta{block(3, 1, 1), block(4, 1, 1)}}
		s.Intents = []manifest.Intent{{Kind: manifest.Ship, ID: id, From: []int{1}}}
		wantState(t, fmt.Sprint("Ship ", id), s, id == 5)
		s.Intents = []manifest.Intent{{Kind: manifest.Pack, ID: id, From: []int{3, 4}}}
		wantState(t, fmt.Sprint("Pack ", id), s, id == 5)
	}
}

// ship: an Intent with that ID, and what it is from.
func ship(s *manifest.State, id int) {
	s.Locals = []manifest.Local{local(1, 1, 1)}
	s.Intents = append(s.Intents, manifest.Intent{Kind: manifest.Ship, ID: id, From: []int{1}})
}

func pack(s *manifest.State, id int) {
	s.Blocks = []planner.Meta{block(2, 1, 1), block(3, 1, 1)}
	s.Intents = append(s.Intents, manifest.Intent{Kind: manifest.Pack, ID: id, From: []int{3, 2}})
}

func TestP1502Locals(t *testing.T) {
	var l []other
	for _, c := range []struct {
		first, last, bytes int
		may                bool
	}{
		{1, 1, 0, true}, {1, 500, 1, true}, {500, 500, api.MaxBytes, true}, {499, 500, api.MaxBytes - 1, true}, {2, 3, 4, true},
		{0, 1, 0, false}, {-1, 1, 0, false}, {math.MinInt, 1, 0, false}, {0, 0, 0, false}, {-5, -3, 0, false},
		{2, 1, 0, false}, {500, 499, 0, false}, {501, 500, 0, false}, {most, 1, 0, false}, {math.MaxInt, 500, 0, false}, {5, -5, 0, false}, {1, math.MinInt, 0, false},
		{1, 501, 0, false}, {501, 501, 0, false}, {1, most, 0, false}, {1, most + 1, 0, false}, {1, math.MaxInt, 0, false}, {math.MaxInt, math.MaxInt, 0, false},
		{1, 1, -1, false}, {1, 1, math.MinInt, false}, {1, 1, api.MaxBytes + 1, false}, {1, 1, most, false}, {1, 1, math.MaxInt, false},
	} {
		for i := range 3 {
			l = append(l, other{fmt.Sprint("Local ", i, c), func(s *manifest.State) {
				x := &s.Locals[i]
				x.First, x.Last, x.Bytes = c.first, c.last, c.bytes
			}, c.may})
		}
	}
	wantOthers(t, l)
	wantState(t, "the greatest Last", manifest.State{Next: 2, Seq: most, Locals: []manifest.Local{local(1, most, most)}}, true)
	wantState(t, "without a Seq", manifest.State{Next: 2, Locals: []manifest.Local{local(1, 1, 1)}}, false)
	wantState(t, "0 to 0", manifest.State{Next: 2, Locals: []manifest.Local{local(1, 0, 0)}}, false)
}

func TestP1502Blocks(t *testing.T) {
	var l []other
	for what, c := range map[string]struct {
		change func(m *planner.Meta)
		may    bool
	}{
		"Last is Seq":        {func(m *planner.Meta) { m.Last = 500 }, true},
		"Last is above":      {func(m *planner.Meta) { m.Last = 501 }, false},
		"Last is far above":  {func(m *planner.Meta) { m.Last = most }, false},
		"First is above":     {func(m *planner.Meta) { m.First, m.Last = 501, 501 }, false},
		"First is Last":      {func(m *planner.Meta) { m.First = m.Last }, true},
		"First is greater":   {func(m *planner.Meta) { m.First = m.Last + 1 }, false},
		"First is 0":         {func(m *planner.Meta) { m.First = 0 }, false},
		"Least is greater":   {func(m *planner.Meta) { m.Least = m.Most + 1 }, false},
		"Least is below 0":   {func(m *planner.Meta) { m.Least = -1 }, false},
		"Most is too great":  {func(m *planner.Meta) { m.Most = api.MaxTime }, false},
		"Most is greatest":   {func(m *planner.Meta) { m.Most = api.MaxTime - 1 }, true},
		"no Rows":            {func(m *planner.Meta) { m.Rows = 0 }, false},
		"many Rows":          {func(m *planner.Meta) { m.Rows = most }, true},
		"too many Rows":      {func(m *planner.Meta) { m.Rows = most + 1 }, false},
		"no Bytes":           {func(m *planner.Meta) { m.Bytes = 0 }, true},
		"Bytes are below 0":  {func(m *planner.Meta) { m.Bytes = -1 }, false},
		"Bytes are many":     {func(m *planner.Meta) { m.Bytes = most }, true},
		"Bytes are too many": {func(m *planner.Meta) { m.Bytes = most + 1 }, false},
		"Level is below 0":   {func(m *planner.Meta) { m.Level = -1 }, false},
		"Level is 0":         {func(m *planner.Meta) { m.Level = 0 }, true},
		"Level is 20":        {func(m *planner.Meta) { m.Level = 20 }, true},
		"Level is 21":        {func(m *planner.Meta) { m.Level = 21 }, false},
		"nothing":            {func(m *planner.Meta) { *m = planner.Meta{} }, false},
		"nothing but the ID": {func(m *planner.Meta) { *m = planner.Meta{ID: m.ID} }, false},
	} {
		for i := range 5 {
			l = append(l, other{fmt.Sprint("Block ", i, ": ", what), func(s *manifest.State) { c.change(&s.Blocks[i]) }, c.may})
		}
	}
	wantOthers(t, l)
}

func TestP1502Marks(t *testing.T) {
	var l []other
	for at, may := range map[int]bool{
		0: true, 1: true, 1000: true, most - 1: true, most: true,
		-1: false, -most: false, math.MinInt: false, most + 1: false, most + 2: false, 1 << 56: false, math.MaxInt: false,
	} {
		for i := range 3 {
			l = append(l, other{fmt.Sprint("Mark ", i, " At ", at), func(s *manifest.State) { s.Marks[i].At = at }, may})
		}
	}
	wantOthers(t, l)
}

func TestP1502Intents(t *testing.T) {
	var l []other
	with := func(may bool, kind int, from ...int) {
		for i := range 4 { // in the place of one, or as one more, where none is from what others are from
			l = append(l, other{fmt.Sprint("Intent ", i, ": ", kind, " of ", from), func(s *manifest.State) {
				s.Intents = slices.DeleteFunc(s.Intents, func(x manifest.Intent) bool { return x.ID > 10 })
				s.Intents = append(s.Intents[:0], manifest.Intent{Kind: kind, ID: []int{4, 10, 250, 998}[i], From: from})
			}, may})
		}
	}
	for _, id := range []int{1, 5, 200} {
		with(true, manifest.Ship, id)
		with(false, manifest.Pack, id)
		with(false, manifest.Pack, id, id)
		with(false, manifest.Pack, 2, id)
		with(false, manifest.Pack, id, 2)
		with(false, manifest.Ship, id, id)
		with(false, manifest.Ship, 2, id)
		with(false, manifest.Ship, id, 2)
	}
	for _, kind := range []int{math.MinInt, -1, 0, 3, 4, 9, 1 << 56, math.MaxInt} {
		with(false, kind, 1)
		with(false, kind, 2, 6)
		with(false, kind)
	}
	for _, kind := range []int{manifest.Ship, manifest.Pack} {
		with(false, kind)
		with(false, kind, []int{}...)
		// no ID of anything, of a Block, of Marks, of Intents
		for _, id := range []int{math.MinInt, -1, 0, 9, 997, 1000, most, math.MaxInt, 2, 300, 3, 999, 10, 998} {
			with(false, kind, id)
			with(false, kind, 1, id)
			with(false, kind, 1, 5, id)
		}
	}
	with(false, manifest.Ship, 1, 5)
	with(false, manifest.Ship, 1, 5, 200)
	with(false, manifest.Ship, 2, 6)
	with(false, manifest.Pack, 1, 5)
	with(true, manifest.Pack, 2, 6)
	with(true, manifest.Pack, 6, 2)
	with(true, manifest.Pack, 300, 7, 8, 2, 6)
	with(false, manifest.Pack, 2)
	with(false, manifest.Pack, 300, 7, 8, 2, 6, 300)
	with(false, manifest.Pack, 6, 6)
	with(false, manifest.Pack, 6, 7, 6)
	with(false, manifest.Pack, 6, 7, 7)
	for _, id := range []int{math.MinInt, -1, 0, 1, 3, 9, 10, 999, 1000, most, math.MaxInt} {
		with(false, manifest.Pack, 6, id)
		with(false, manifest.Pack, id, 6)
		with(false, manifest.Pack, 6, 7, id)
	}
	wantOthers(t, l)
}

// TestP1502FromTwice: what two Intents are from.
func TestP1502FromTwice(t *testing.T) {
	intents := func(l ...manifest.Intent) func(s *manifest.State) {
		return func(s *manifest.State) {
			for i := range l {
				l[i].ID = 500 + i
			}
			s.Intents = l
		}
	}
	ship := func(id int) manifest.Intent { return manifest.Intent{Kind: manifest.Ship, From: []int{id}} }
	pack := func(l ...int) manifest.Intent { return manifest.Intent{Kind: manifest.Pack, From: l} }
	wantOthers(t, []other{
		{"two Ships of two", intents(ship(1), ship(5)), true},
		{"two Ships, the later Local first", intents(ship(5), ship(1)), true},
		{"three Ships", intents(ship(5), ship(200), ship(1)), true},
		{"two Ships of one", intents(ship(5), ship(5)), false},
		{"three Ships of two", intents(ship(5), ship(1), ship(5)), false},
		{"two Packs of four", intents(pack(2, 6), pack(7, 8)), true},
		{"two Packs of four, in another order", intents(pack(8, 2), pack(300, 6, 7)), true},
		{"two Packs of the same", intents(pack(2, 6), pack(2, 6)), false},
		{"two Packs of the same, turned", intents(pack(2, 6), pack(6, 2)), false},
		{"two Packs that share the first", intents(pack(2, 6), pack(2, 7)), false},
		{"two Packs that share the last", intents(pack(2, 300), pack(7, 300)), false},
		{"one has the other's last", intents(pack(2, 6, 7), pack(8, 2)), false},
		{"a Ship between", intents(pack(2, 6), ship(1), pack(7, 2)), false},
		{"a Ship between, all apart", intents(pack(2, 6), ship(1), pack(7, 8), ship(200)), true},
		{"one Pack has one twice", intents(pack(2, 6, 2)), false},
	})
}

func TestP1502Used(t *testing.T) {
	for what, c := range map[string]struct {
		s    manifest.State
		want []int
	}{
		"nothing":  {manifest.State{}, nil},
		"some":     {some(), []int{1, 2, 3, 5, 6, 7, 8, 10, 11, 20, 200, 300, 400, 999}},
		"a Local":  {manifest.State{Next: 9, Locals: []manifest.Local{local(5, 1, 1)}}, []int{5}},
		"a Block":  {manifest.State{Next: 9, Blocks: []planner.Meta{block(5, 1, 1)}}, []int{5}},
		"a Mark":   {manifest.State{Next: 9, Marks: []manifest.Mark{{ID: 5, At: 1}}}, []int{5}},
		"a Ship":   {manifest.State{Next: 9, Intents: []manifest.Intent{{Kind: manifest.Ship, ID: 5, From: []int{7}}}}, []int{5}},
		"a Pack":   {manifest.State{Intents: []manifest.Intent{{Kind: manifest.Pack, ID: 5, From: []int{7, 8}}}}, []int{5}},
		"neither":  {manifest.State{Intents: []manifest.Intent{{ID: 6}, {ID: 5}}}, []int{5, 6}},
		"no order": {manifest.State{Marks: []manifest.Mark{{ID: 5}, {ID: 4}, {ID: 9}}, Locals: []manifest.Local{{ID: 8}, {ID: -2}}}, []int{-2, 4, 5, 8, 9}},
		"huge":     {manifest.State{Marks: []manifest.Mark{{ID: math.MaxInt}}, Blocks: []planner.Meta{{ID: math.MinInt}}, Locals: []manifest.Local{{}}}, []int{math.MinInt, 0, math.MaxInt}},
		"twice":    {manifest.State{Marks: []manifest.Mark{{ID: 5}, {ID: 3}, {ID: 5}}, Blocks: []planner.Meta{{ID: 3}}}, []int{3, 3, 5, 5}},
	} {
		if got := manifest.Used(c.s); !slices.Equal(got, c.want) {
			t.Errorf("%s: %v, want %v", what, got, c.want)
		}
	}
	if got := manifest.Used(full()); len(got) != 3016 || got[0] != most-4000 || got[3015] != most-1 || !slices.IsSorted(got) {
		t.Errorf("full: %d, from %d", len(got), got[0])
	}
	long := manifest.State{Marks: make([]manifest.Mark, 5000)}
	if got := manifest.Used(long); len(got) != 5000 || got[4999] != 0 {
		t.Errorf("5000 Marks of the ID 0: %d", len(got))
	}
}

// TestP1502Random: States that may be, changed somewhere: as the model says.
func TestP1502Random(t *testing.T) {
	r := rand.New(rand.NewPCG(15, 1))
	right := 0
	for range 20000 {
		s := anyState(r)
		if !mayBe(s) {
			t.Fatal(told(s))
		}
		for range r.IntN(4) {
			spoilOne(r, &s)
		}
		want := mayBe(s)
		if want {
			right++
		}
		if got := manifest.Right(s); got != want {
			t.Fatalf("Right: %v of %s", got, told(s))
		}
		b, e := manifest.Put(s)
		if want != (e == api.OK) || want && string(b) != string(bytesOf(s)) || !want && len(b) > 0 {
			t.Fatalf("Put: %q %d of %s", b, e, told(s))
		}
		if !want && written(s) {
			wantNone(t, "any", bytesOf(s))
		}
		if !slices.Equal(manifest.Used(s), used(s)) {
			t.Fatal(told(s), manifest.Used(s))
		}
	}
	if right < 4000 || right > 16000 {
		t.Error("of 20000 there may be", right)
	}
}

// spoilOne: one number of a State is another one.
func spoilOne(r *rand.Rand, s *manifest.State) {
	all := []*int{&s.Next, &s.Sure, &s.Seq}
	for i := range s.Locals {
		x := &s.Locals[i]
		all = append(all, &x.ID, &x.First, &x.Last, &x.Bytes)
	}
	for i := range s.Blocks {
		m := &s.Blocks[i]
		all = append(all, &m.ID, &m.Least, &m.Most, &m.First, &m.Last, &m.Rows, &m.Bytes, &m.Level)
	}
	for i := range s.Intents {
		x := &s.Intents[i]
		all = append(all, &x.Kind, &x.ID)
		for j := range x.From {
			all = append(all, &x.From[j])
		}
	}
	for i := range s.Marks {
		x := &s.Marks[i]
		all = append(all, &x.ID, &x.At)
	}
	n := all[r.IntN(len(all))]
	switch r.IntN(5) {
	case 0:
		*n++
	case 1:
		*n--
	case 2:
		*n = *all[r.IntN(len(all))]
	case 3:
		*n += r.IntN(9) - 4
	default:
		*n = []int{-1, 0, 1, 2, 3, 5, 20, 21, most, most + 1, api.MaxBytes, api.MaxBytes + 1}[r.IntN(12)]
	}
}
