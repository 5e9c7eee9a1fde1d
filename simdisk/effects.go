package simdisk

import (
	"maps"
	"strings"

	"icehouse/api"
	"icehouse/standin"
)

// effect: what one operation does to a disk.
type effect interface{ effect() }

// The effects. A create brings its file along, so that a crash, that goes
// through the changes anew, comes upon the same one.
type (
	create struct {
		name string
		file *file
	}
	extend struct {
		name  string
		bytes []byte
	}
	rename    struct{ from, to string }
	remove    struct{ name string }
	syncFile  struct{ name string }
	syncNames struct{}
)

func (create) effect()    {}
func (extend) effect()    {}
func (rename) effect()    {}
func (remove) effect()    {}
func (syncFile) effect()  {}
func (syncNames) effect() {}

// against: what stands against the effect, so that it is no operation.
func (p *plate) against(x effect) api.Errno {
	switch x := x.(type) {
	case create:
		return p.againstNew(x.name)
	case extend:
		return p.againstMore(x.name, len(x.bytes))
	case rename:
		if e := p.there(x.from); e != api.OK {
			return e
		}
		if !standin.Name(x.to) {
			return api.ErrArg
		}
	case remove:
		return p.there(x.name)
	case syncFile:
		return p.there(x.name)
	}
	return api.OK
}

func (p *plate) there(name string) api.Errno {
	if p.names[name] == nil {
		return api.ErrNone
	}
	return api.OK
}

func (p *plate) againstNew(name string) api.Errno {
	switch {
	case !standin.Name(name):
		return api.ErrArg
	case p.names[name] != nil:
		return api.ErrThere
	case len(p.names) >= api.MaxFiles: // a crash may bring back more
		return api.ErrFull
	}
	return api.OK
}

func (p *plate) againstMore(name string, n int) api.Errno {
	if e := p.there(name); e != api.OK {
		return e
	}
	if p.names.bytes()+n > p.quota {
		return api.ErrFull
	}
	return api.OK
}

// do: names that are kept are copied: they may be pieces of texts that are far longer.
func (p *plate) do(x effect) {
	switch x := x.(type) {
	case create:
		p.change(create{strings.Clone(x.name), x.file})
	case extend:
		p.names[x.name].extend(x.bytes)
	case rename:
		if x.from != x.to {
			p.change(rename{strings.Clone(x.from), strings.Clone(x.to)})
		}
	case remove:
		p.change(remove{strings.Clone(x.name)})
	case syncFile:
		p.names[x.name].sync()
	case syncNames:
		p.sure, p.changes = maps.Clone(p.names), nil
	}
}

// change: of the names; it is not sure.
func (p *plate) change(x effect) {
	p.names.change(x)
	p.changes = append(p.changes, x)
}

func (n names) change(x effect) {
	switch x := x.(type) {
	case create:
		n[x.name] = x.file
	case rename:
		if f, there := n[x.from]; there {
			delete(n, x.from)
			n[x.to] = f
		}
	case remove:
		delete(n, x.name)
	}
}
