package planner_test

import (
	"math/rand/v2"
	"slices"
	"testing"

	"icehouse/planner"
)

// times: those of a block that may have entries: all of them, as the lists here have few.
func times(m planner.Meta) []int { return upFrom(m.Least, m.Most-m.Least+1) }

// byID: the blocks of these IDs.
func byID(t *testing.T, l []planner.Meta, ids []int) []planner.Meta {
	t.Helper()
	out := []planner.Meta{}
	for _, id := range ids {
		i := slices.IndexFunc(l, func(m planner.Meta) bool { return m.ID == id })
		if i < 0 {
			t.Fatal(id, "is not of the list")
		}
		out = append(out, l[i])
	}
	return out
}

// wantSome: whether the IDs are of the list, each once, and in its order.
func wantSome(t *testing.T, l []planner.Meta, ids []int) {
	t.Helper()
	rest := l
	for _, id := range ids {
		i := slices.IndexFunc(rest, func(m planner.Meta) bool { return m.ID == id })
		if i < 0 {
			t.Fatal(ids, "are not of the list in its order")
		}
		rest = rest[i+1:]
	}
}

// P906

func TestP906Look(t *testing.T) {
	r := rand.New(rand.NewPCG(9, 4))
	for range 20000 {
		l, from := anyList(r), r.IntN(120)-10
		to := from + r.IntN(30)
		ids := planner.Look(l, from, to)
		wantSome(t, l, ids)
		for _, m := range l {
			asked := slices.ContainsFunc(times(m), func(time int) bool { return from <= time && time < to })
			told := slices.Contains(ids, m.ID)
			if asked && !told || told && !asked && from < to {
				t.Fatal(m, from, to, told)
			}
		}
	}
}

func TestP906Over(t *testing.T) {
	r := rand.New(rand.NewPCG(9, 5))
	for range 20000 {
		l, keep, now := anyList(r), 1+r.IntN(60), r.IntN(160)-20
		ids := planner.Over(l, keep, now)
		wantSome(t, l, ids)
		for _, m := range l {
			kept := slices.ContainsFunc(times(m), func(time int) bool { return now-time < keep })
			if told := slices.Contains(ids, m.ID); kept == told {
				t.Fatal(m, keep, now, told)
			}
		}
	}
}

func TestP906Pack(t *testing.T) {
	r := rand.New(rand.NewPCG(9, 6))
	some := 0
	for range 20000 {
		l, rules, now := anyList(r), anyRules(r), r.IntN(120)
		ids := planner.Pack(l, rules, now)
		if len(ids) == 0 {
			continue
		}
		some++
		over, size := planner.Over(l, rules.Keep, now), 0
		packed := byID(t, l, ids)
		for i, m := range packed {
			if slices.Contains(ids[:i], m.ID) || slices.Contains(over, m.ID) || m.Level != packed[0].Level || m.Level > 19 {
				t.Fatal(l, rules, now, ids)
			}
			size += m.Bytes
		}
		if len(ids) != rules.Fan || size > rules.MaxBytes {
			t.Fatal(l, rules, now, ids)
		}
	}
	if some < 4000 {
		t.Error("too few were packed:", some)
	}
}

// P907

// packed: what stands in the list behind one packing; false, if nothing is packed.
func packed(t *testing.T, l []planner.Meta, r planner.Rules, now, id int) ([]planner.Meta, bool) {
	t.Helper()
	ids := planner.Pack(l, r, now)
	if len(ids) == 0 {
		return l, false
	}
	m, ok := planner.Joined(byID(t, l, ids), id)
	if !ok {
		t.Fatal("not joined:", byID(t, l, ids))
	}
	rest := slices.DeleteFunc(slices.Clone(l), func(m planner.Meta) bool { return slices.Contains(ids, m.ID) })
	if len(l)-len(rest) != r.Fan {
		t.Fatal("Fan is", r.Fan, "packed are", ids)
	}
	return append(rest, m), true
}

// wantSums: both lists have blocks of the same rows, bytes, times and numbers in all.
func wantSums(t *testing.T, before, behind []planner.Meta) {
	t.Helper()
	sums := func(l []planner.Meta) planner.Meta {
		all := planner.Meta{Least: greatest, First: greatest}
		for _, m := range l {
			all.Least, all.Most = min(all.Least, m.Least), max(all.Most, m.Most)
			all.First, all.Last = min(all.First, m.First), max(all.Last, m.Last)
			all.Rows, all.Bytes = all.Rows+m.Rows, all.Bytes+m.Bytes
		}
		return all
	}
	if sums(before) != sums(behind) {
		t.Fatal(before, behind)
	}
}

// toTheEnd: how often the list was packed, and what stands then.
func toTheEnd(t *testing.T, l []planner.Meta, r planner.Rules, now int) (int, []planner.Meta) {
	t.Helper()
	most := len(l) / (r.Fan - 1)
	for n := range most + 1 {
		next, some := packed(t, l, r, now, 1000+n)
		if !some {
			return n, l
		}
		if len(next) != len(l)-r.Fan+1 || !planner.Fine(next) {
			t.Fatal(l, next)
		}
		wantSums(t, l, next)
		l = next
	}
	t.Fatal("no end")
	return 0, nil
}

func TestP907Any(t *testing.T) {
	r := rand.New(rand.NewPCG(9, 7))
	often := 0
	for range 10000 {
		l, rules, now := anyList(r), anyRules(r), r.IntN(100)
		rules.MaxBytes *= 1 + r.IntN(5)
		n, end := toTheEnd(t, l, rules, now)
		if n > 1 {
			often++
		}
		if again, more := toTheEnd(t, end, rules, now); again != 0 || !slices.Equal(end, more) {
			t.Fatal("it went on behind its end", end, more)
		}
	}
	if often < 1000 {
		t.Error("too few were packed again:", often)
	}
}

// TestP907ToOne: where all fit, n blocks of level 0 come to as many as n has digits' sum, told by Fan.
func TestP907ToOne(t *testing.T) {
	for fan := 2; fan <= 16; fan++ {
		for _, n := range []int{0, 1, fan - 1, fan, fan + 1, fan * fan, 100} {
			_, end := toTheEnd(t, levels(make([]int, n)...), wide(fan), 0)
			digits := 0
			for rest := n; rest > 0; rest /= fan {
				digits += rest % fan
			}
			if len(end) != digits {
				t.Error(n, "by", fan, "come to", len(end), "want", digits)
			}
		}
	}
}

// TestP907TopLevel: it ends at level 20, where blocks stay as they are.
func TestP907TopLevel(t *testing.T) {
	n, end := toTheEnd(t, levels(slices.Repeat([]int{18}, 12)...), wide(2), 0)
	if n != 9 || len(end) != 3 || slices.ContainsFunc(end, func(m planner.Meta) bool { return m.Level != 20 }) {
		t.Error(n, end)
	}
}
