package manifest_test

import (
	"encoding/binary"
	"fmt"
	"hash/crc32"
	"math/rand/v2"
	"slices"
	"testing"

	"icehouse/api"
	"icehouse/manifest"
	"icehouse/planner"
)

const (
	// most: the greatest of most numbers.
	most = 1<<40 - 1
	kind = 9
)

func wantE(t *testing.T, what string, got, want api.Errno) {
	t.Helper()
	if got != want {
		t.Errorf("%s: %d, want %d", what, got, want)
	}
}

// told: a State as a text, in which a nil list and an empty one are the same.
func told(s manifest.State) string { return fmt.Sprintf("%+v", s) }

func wantTold(t *testing.T, what string, got, want manifest.State) {
	t.Helper()
	if told(got) != told(want) {
		t.Fatalf("%s: %.3000s, want %.3000s", what, told(got), told(want))
	}
}

// first: the State of an empty disk.
func first() manifest.State { return manifest.State{Next: 1} }

// block: one that may be, of these numbers.
func block(id, first, last int) planner.Meta {
	return planner.Meta{ID: id, Least: first, Most: last, First: first, Last: last, Rows: 1, Bytes: 10}
}

func local(id, first, last int) manifest.Local {
	return manifest.Local{ID: id, First: first, Last: last, Bytes: 30}
}

// some: a State with something of each kind, and each number apart.
func some() manifest.State {
	return manifest.State{
		Next: 1000, Sure: 400, Seq: 500,
		Locals:  []manifest.Local{local(1, 7, 9), local(5, 300, 400), local(200, 401, 470)},
		Blocks:  []planner.Meta{block(2, 1, 6), block(6, 10, 20), block(7, 15, 90), block(8, 91, 299), {ID: 300, Least: 3, Most: 70000, First: 2, Last: 500, Rows: 300, Bytes: 5000, Level: 20}},
		Intents: []manifest.Intent{{Kind: manifest.Ship, ID: 10, From: []int{5}}, {Kind: manifest.Pack, ID: 20, From: []int{300, 6}}, {Kind: manifest.Pack, ID: 400, From: []int{2, 7, 8}}},
		Marks:   []manifest.Mark{{ID: 3, At: 0}, {ID: 11, At: 70}, {ID: 999, At: 12345}},
	}
}

// full: as much of all as may be.
func full() manifest.State {
	s := manifest.State{Next: most, Sure: most, Seq: most}
	for i := range 1000 {
		id := most - 4000 + i
		s.Locals = append(s.Locals, manifest.Local{ID: id, First: most, Last: most, Bytes: api.MaxBytes})
		s.Blocks = append(s.Blocks, planner.Meta{ID: id + 1000, Most: most, First: 1, Last: most, Rows: most, Bytes: most, Level: 20})
		s.Marks = append(s.Marks, manifest.Mark{ID: id + 2000, At: most})
	}
	for i := range 16 {
		x := manifest.Intent{Kind: manifest.Pack, ID: most - 16 + i}
		for j := range 16 {
			x.From = append(x.From, most-2001-i*16-j)
		}
		s.Intents = append(s.Intents, x)
	}
	return s
}

// copied: a State of its own.
func copied(s manifest.State) manifest.State {
	s.Locals, s.Blocks, s.Marks = slices.Clone(s.Locals), slices.Clone(s.Blocks), slices.Clone(s.Marks)
	s.Intents = slices.Clone(s.Intents)
	for i := range s.Intents {
		s.Intents[i].From = slices.Clone(s.Intents[i].From)
	}
	return s
}

// seqOf: a number of an entry, up to that.
func seqOf(r *rand.Rand, upTo int) int { return 1 + r.IntN(upTo) }

// parts: the IDs up to below end, some of them, each given to one of the kinds.
func parts(r *rand.Rand, end int) [5][]int {
	var out [5][]int
	for id := 1; id < end; id++ {
		if id > 60 && id < end-20 {
			continue
		}
		n := r.IntN(5)
		out[n] = append(out[n], id)
	}
	return out
}

// anyState: one that may be.
func anyState(r *rand.Rand) manifest.State {
	s := manifest.State{Next: 1 + r.IntN([]int{1, 5, 60, 200}[r.IntN(4)]), Seq: r.IntN([]int{1, 5, 1 << 20, most + 1}[r.IntN(4)])}
	s.Sure = r.IntN(s.Seq + 1)
	kinds := parts(r, s.Next)
	for _, id := range kinds[3] {
		s.Marks = append(s.Marks, manifest.Mark{ID: id, At: r.IntN([]int{1, 100, most + 1}[r.IntN(3)])})
	}
	if s.Seq == 0 {
		return s
	}
	for _, id := range kinds[0] {
		first := seqOf(r, s.Seq)
		s.Locals = append(s.Locals, manifest.Local{ID: id, First: first, Last: first + r.IntN(s.Seq-first+1), Bytes: r.IntN(api.MaxBytes + 1)})
	}
	for _, id := range kinds[1] {
		first, least := seqOf(r, s.Seq), r.IntN(api.MaxTime)
		s.Blocks = append(s.Blocks, planner.Meta{
			ID: id, Least: least, Most: least + r.IntN(api.MaxTime-least), First: first, Last: first + r.IntN(s.Seq-first+1),
			Rows: 1 + r.IntN(most), Bytes: r.IntN(most + 1), Level: r.IntN(21),
		})
	}
	locals, blocks := slices.Clone(kinds[0]), slices.Clone(kinds[1])
	r.Shuffle(len(locals), func(i, j int) { locals[i], locals[j] = locals[j], locals[i] })
	r.Shuffle(len(blocks), func(i, j int) { blocks[i], blocks[j] = blocks[j], blocks[i] })
	for _, id := range kinds[2][:min(16, len(kinds[2]))] {
		n := 2 + r.IntN(4)
		if r.IntN(2) == 0 && len(locals) > 0 {
			s.Intents = append(s.Intents, manifest.Intent{Kind: manifest.Ship, ID: id, From: []int{locals[0]}})
			locals = locals[1:]
		} else if len(blocks) >= n {
			s.Intents = append(s.Intents, manifest.Intent{Kind: manifest.Pack, ID: id, From: slices.Clone(blocks[:n])})
			blocks = blocks[n:]
		}
	}
	return s
}

// number: as the document says, without asking whether it may be.
func number(n int) []byte { return binary.AppendUvarint(nil, uint64(n)) }

// long: the same number, with a byte more than need be.
func long(n int) []byte {
	b := number(n)
	b[len(b)-1] |= 128
	return append(b, 0)
}

// frame: with its right sum.
func frame(kind int, in []byte) []byte {
	summed := append(append([]byte{byte(kind)}, number(len(in))...), in...)
	sum := crc32.Checksum(summed, crc32.MakeTable(crc32.Castagnoli))
	head := append([]byte{0xa5}, summed[:len(summed)-len(in)]...)
	return append(binary.BigEndian.AppendUint32(head, sum), in...)
}

// pieces: what is in a State's frame, number by number; of a block its bytes,
// with their length ahead, are one piece.
func pieces(s manifest.State) [][]byte {
	var out [][]byte
	put := func(l ...int) {
		for _, n := range l {
			out = append(out, number(n))
		}
	}
	put(s.Next, s.Sure, s.Seq)
	put(len(s.Locals))
	for _, x := range s.Locals {
		put(x.ID, x.First, x.Last, x.Bytes)
	}
	put(len(s.Blocks))
	for _, m := range s.Blocks {
		b := metaBytes(m)
		out = append(out, append(number(len(b)), b...))
	}
	put(len(s.Intents))
	for _, x := range s.Intents {
		put(x.Kind, x.ID, len(x.From))
		put(x.From...)
	}
	put(len(s.Marks))
	for _, x := range s.Marks {
		put(x.ID, x.At)
	}
	return out
}

func metaBytes(m planner.Meta) []byte {
	var b []byte
	for _, n := range []int{m.ID, m.Least, m.Most - m.Least, m.First, m.Last - m.First, m.Rows, m.Bytes, m.Level} {
		b = append(b, number(n)...)
	}
	return b
}

// bytesOf: a State's bytes, whether it may be or not.
func bytesOf(s manifest.State) []byte { return frame(kind, slices.Concat(pieces(s)...)) }

// used: the IDs, each as often as it is there, rising.
func used(s manifest.State) []int {
	var out []int
	for _, x := range s.Locals {
		out = append(out, x.ID)
	}
	for _, x := range s.Blocks {
		out = append(out, x.ID)
	}
	for _, x := range s.Intents {
		out = append(out, x.ID)
	}
	for _, x := range s.Marks {
		out = append(out, x.ID)
	}
	slices.Sort(out)
	return out
}

// in: whether least to most have it.
func in(n, least, most int) bool { return least <= n && n <= most }

// mayBe: as the document says it, sentence by sentence.
func mayBe(s manifest.State) bool {
	if !in(s.Next, 1, most) || !in(s.Sure, 0, most) || !in(s.Seq, 0, most) || s.Sure > s.Seq {
		return false
	}
	if len(s.Locals) > 1000 || len(s.Blocks) > 1000 || len(s.Intents) > 16 || len(s.Marks) > 1000 {
		return false
	}
	kinds := map[int]string{}
	last := map[string]int{}
	fits := func(what string, id int) bool {
		ok := in(id, 1, s.Next-1) && id > last[what] && kinds[id] == ""
		kinds[id], last[what] = what, id
		return ok
	}
	for _, x := range s.Locals {
		if !fits("local", x.ID) || !in(x.First, 1, x.Last) || x.Last > s.Seq || !in(x.Bytes, 0, api.MaxBytes) {
			return false
		}
	}
	for _, m := range s.Blocks {
		if !fits("block", m.ID) || !planner.Right(m) || m.Last > s.Seq {
			return false
		}
	}
	for _, x := range s.Marks {
		if !fits("mark", x.ID) || !in(x.At, 0, most) {
			return false
		}
	}
	return mayIntend(s, kinds, fits)
}

func mayIntend(s manifest.State, kinds map[int]string, fits func(what string, id int) bool) bool {
	from := map[int]bool{}
	for _, x := range s.Intents {
		if !fits("intent", x.ID) || !in(x.Kind, 1, 2) || !in(len(x.From), x.Kind, 16) || x.Kind == manifest.Ship && len(x.From) > 1 {
			return false
		}
		for _, id := range x.From {
			if from[id] || kinds[id] != []string{"local", "block"}[x.Kind-1] {
				return false
			}
			from[id] = true
		}
	}
	return true
}
