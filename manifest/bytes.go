package manifest

import (
	"icehouse/api"
	"icehouse/codec"
	"icehouse/join"
	"icehouse/planner"
)

// stateKind: of a State's frame.
const stateKind = 9

// Put: the State as bytes.
func Put(s State) ([]byte, api.Errno) {
	if !Right(s) {
		return nil, api.ErrArg
	}
	var all join.Bytes
	put := func(l ...int) {
		for _, n := range l {
			all.Add(codec.Number(n))
		}
	}
	put(s.Next, s.Sure, s.Seq, len(s.Locals))
	for _, x := range s.Locals {
		put(x.ID, x.First, x.Last, x.Bytes)
	}
	put(len(s.Blocks))
	for _, m := range s.Blocks {
		all.AddText(planner.Put(m))
	}
	put(len(s.Intents))
	for _, x := range s.Intents {
		put(x.Kind, x.ID, len(x.From))
		put(x.From...)
	}
	put(len(s.Marks))
	for _, x := range s.Marks {
		put(x.ID, x.At)
	}
	in, e := all.Done()
	if e != api.OK {
		return nil, e
	}
	return codec.Frame(stateKind, in)
}

// Get: the State that b is the bytes of.
func Get(b []byte) (State, api.Errno) {
	kind, in, n, e := codec.Unframe(b)
	if e != api.OK || kind != stateKind || n != len(b) {
		return State{}, api.ErrForm
	}
	d := codec.New(in)
	s := read(d)
	if d.Done() != api.OK || !Right(s) {
		return State{}, api.ErrForm
	}
	return s, api.OK
}

// read: what is told, whether it may be or not.
func read(d *codec.Decoder) State {
	var s State
	s.Next, s.Sure, s.Seq = d.Number(), d.Number(), d.Number()
	s.Locals = list(d, func() Local {
		return Local{ID: d.Number(), First: d.Number(), Last: d.Number(), Bytes: d.Number()}
	})
	s.Blocks = list(d, func() planner.Meta {
		// Of bytes that are no Meta's there is one that may not be.
		m, _ := planner.Get([]byte(d.Text()))
		return m
	})
	s.Intents = list(d, func() Intent {
		return Intent{Kind: d.Number(), ID: d.Number(), From: list(d, d.Number)}
	})
	s.Marks = list(d, func() Mark {
		return Mark{ID: d.Number(), At: d.Number()}
	})
	return s
}

// list: as many as the number ahead of them says, each read by one. It ends
// with the bytes, however many are said to be there.
func list[T any](d *codec.Decoder, one func() T) []T {
	var l []T
	for range d.Number() {
		x := one()
		if d.Err() != api.OK {
			return nil
		}
		l = append(l, x)
	}
	return l
}
