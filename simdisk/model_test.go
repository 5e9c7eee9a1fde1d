package simdisk_test

import (
	"slices"
	"strconv"
	"strings"
	"testing"

	"icehouse/api"
	"icehouse/simdisk"
)

// paper: a file of the model.
type paper struct {
	sure   string
	pieces []string
}

func (p *paper) text() string { return p.sure + strings.Join(p.pieces, "") }

// entry: a name, and the file that has it.
type entry struct {
	name string
	file *paper
}

// book: entries, their names rising; nothing in it is ever changed.
type book []entry

func (b book) find(name string) *paper {
	for _, x := range b {
		if x.name == name {
			return x.file
		}
	}
	return nil
}

func (b book) without(name string) book {
	var out book
	for _, x := range b {
		if x.name != name {
			out = append(out, x)
		}
	}
	return out
}

func (b book) with(name string, f *paper) book {
	out := append(b.without(name), entry{name, f})
	slices.SortFunc(out, func(x, y entry) int { return strings.Compare(x.name, y.name) })
	return out
}

// step: a call of a disk that may be an operation.
type step struct{ call, name, more string }

// note: a change of the names, and the file that it brought.
type note struct {
	step
	file *paper
}

// model: a disk that keeps all that was done since the names were made sure.
type model struct {
	quota     int
	now, sure book
	notes     []note
	off       bool
	fuse      int
	fault     int
	done      bool
}

func (m *model) used() int {
	sum := 0
	for _, x := range m.now {
		sum += len(x.file.text())
	}
	return sum
}

func mayBe(name string) bool {
	return len(name) >= 1 && len(name) <= api.MaxName && strings.IndexFunc(name, func(r rune) bool { return r <= ' ' || r >= 127 }) < 0
}

// refused: what P1002 names ahead.
func (m *model) refused(s step) api.Errno {
	f := m.now.find(s.name)
	switch {
	case m.off:
		return api.ErrPower
	case s.call == "create" && !mayBe(s.name):
		return api.ErrArg
	case s.call == "create" && f != nil:
		return api.ErrThere
	case s.call == "create" && len(m.now) >= api.MaxFiles:
		return api.ErrFull
	case s.call != "create" && s.call != "dir" && f == nil:
		return api.ErrNone
	case s.call == "append" && m.used()+len(s.more) > m.quota:
		return api.ErrFull
	case s.call == "rename" && !mayBe(s.more):
		return api.ErrArg
	}
	return api.OK
}

// turned: what the note does to names.
func (n note) turned(b book) book {
	switch n.call {
	case "create":
		return b.with(n.name, n.file)
	case "rename":
		if f := b.find(n.name); f != nil {
			return b.without(n.name).with(n.more, f)
		}
		return b
	}
	return b.without(n.name)
}

func (m *model) do(s step) {
	f := m.now.find(s.name)
	switch {
	case s.call == "append" && s.more != "":
		f.pieces = append(f.pieces, s.more)
	case s.call == "sync":
		f.sure, f.pieces = f.text(), nil
	case s.call == "dir":
		m.sure, m.notes = m.now, nil
	case s.call == "create" || s.call == "remove" || s.call == "rename" && s.name != s.more:
		n := note{s, &paper{}}
		m.now, m.notes = n.turned(m.now), append(m.notes, n)
	}
}

func (m *model) operate(s step) api.Errno {
	if e := m.refused(s); e != api.OK {
		return e
	}
	if m.fuse == 0 {
		m.off = true
		return api.ErrPower
	}
	if m.fuse > 0 {
		m.fuse--
	}
	if m.fault == 1 {
		m.fault = 0
		if m.done {
			m.do(s)
		}
		return api.ErrFault
	}
	if m.fault > 1 {
		m.fault--
	}
	m.do(s)
	return api.OK
}

// crash: how many things it asked keep of.
func (m *model) crash(keep []bool) int {
	at := 0
	kept := func() bool {
		at++
		return at <= len(keep) && keep[at-1]
	}
	names := m.sure
	for _, n := range m.notes {
		if kept() {
			names = n.turned(names)
		}
	}
	for _, x := range names {
		var left []bool
		for range x.file.pieces {
			left = append(left, kept())
		}
		text := x.file.sure
		for i, p := range x.file.pieces {
			if left[i] {
				text += p
			} else if slices.Contains(left[i:], true) {
				text += strings.Repeat("\x00", len(p))
			}
		}
		x.file.sure, x.file.pieces = text, nil
	}
	m.now, m.sure, m.notes, m.off, m.fuse, m.fault = names, names, nil, false, -1, 0
	return at
}

// twin: a disk, and its model; a call of it is answered by both, which must agree.
type twin struct {
	t *testing.T
	d *simdisk.Disk
	m *model
}

func made(t *testing.T, quota int) *simdisk.Disk {
	t.Helper()
	d, e := simdisk.New(quota)
	if d == nil || e != api.OK {
		t.Fatalf("New(%d): %v %d", quota, d, e)
	}
	return d
}

func twinOf(t *testing.T, quota int) *twin {
	t.Helper()
	w := &twin{t, made(t, quota), &model{quota: quota, fuse: -1}}
	w.looks()
	return w
}

// brief: what is long is told by its beginning.
func brief(s string) string { return strconv.Quote(s[:min(len(s), 30)]) }

func ask(d *simdisk.Disk, s step) api.Errno {
	switch s.call {
	case "create":
		return d.Create(s.name)
	case "append":
		return d.Append(s.name, []byte(s.more))
	case "rename":
		return d.Rename(s.name, s.more)
	case "remove":
		return d.Remove(s.name)
	case "sync":
		return d.Sync(s.name)
	case "dir":
		return d.SyncDir()
	}
	panic("no call: " + s.call)
}

// do: the step is asked of both; whether they agree, and in all looks.
func (w *twin) do(s step) api.Errno {
	w.t.Helper()
	e, want := ask(w.d, s), w.m.operate(s)
	if e != want {
		w.t.Errorf("%s %s %s: %d, want %d", s.call, brief(s.name), brief(s.more), e, want)
	}
	w.looks()
	return e
}

// play: the steps, that must all end so.
func (w *twin) play(want api.Errno, steps ...step) {
	w.t.Helper()
	for _, s := range steps {
		if e := w.do(s); e != want {
			w.t.Errorf("%s %s %s: %d, want %d", s.call, brief(s.name), brief(s.more), e, want)
		}
	}
}

func (w *twin) fail(k int, done bool) {
	w.t.Helper()
	w.d.Fail(k, done)
	w.m.fault, w.m.done = max(k, 0), done
	w.looks()
}

func (w *twin) cut(k int) {
	w.t.Helper()
	w.d.Cut(k)
	w.m.fuse = k
	w.looks()
}

// crash: how many things keep was asked of.
func (w *twin) crash(keep []bool) int {
	w.t.Helper()
	w.d.Crash(keep)
	n := w.m.crash(keep)
	w.looks()
	return n
}

// looks: whether all looks tell the model. None of them changes anything, so
// that the last ones tell of those ahead of them, too.
func (w *twin) looks() {
	w.t.Helper()
	for range 2 {
		names := []string{}
		for _, x := range w.m.now {
			names = append(names, x.name)
			w.read(x.name)
		}
		w.read("none-such")
		if got := w.d.List(); !slices.Equal(got, names) {
			w.t.Errorf("List: %q, want %q", got[:min(len(got), 20)], names[:min(len(names), 20)])
		}
		if used, free := w.d.Used(), w.d.Free(); used != w.m.used() || free != w.m.quota-w.m.used() {
			w.t.Errorf("Used, Free: %d %d, want %d of %d", used, free, w.m.used(), w.m.quota)
		}
		if w.d.Down() != w.m.off {
			w.t.Errorf("Down: %v", !w.m.off)
		}
	}
}

func (w *twin) read(name string) {
	w.t.Helper()
	f, text, want := w.m.now.find(name), "", api.OK
	switch {
	case w.m.off:
		want = api.ErrPower
	case f == nil:
		want = api.ErrNone
	default:
		text = f.text()
	}
	if b, e := w.d.Read(name); string(b) != text || e != want {
		w.t.Errorf("Read(%s): %s %d, want %s %d", brief(name), brief(string(b)), e, brief(text), want)
	}
}

// steps: of a text: calls parted by commas, of words: "create a, append a xyz,
// rename a b, remove b, sync a, dir".
func steps(text string) []step {
	var out []step
	for part := range strings.SplitSeq(text, ",") {
		w := append(strings.Fields(part), "", "", "")
		if w[0] != "" {
			out = append(out, step{w[0], w[1], w[2]})
		}
	}
	return out
}

// shown: all that can be read, as a text: a="xy" b="".
func shown(d *simdisk.Disk) string {
	var out []string
	for _, name := range d.List() {
		b, e := d.Read(name)
		if e != api.OK {
			return "Read: " + strconv.Itoa(int(e))
		}
		out = append(out, name+"="+strconv.Quote(string(b)))
	}
	return strings.Join(out, " ")
}

func wantE(t *testing.T, what string, got, want api.Errno) {
	t.Helper()
	if got != want {
		t.Errorf("%s: %d, want %d", what, got, want)
	}
}

// keeps: all lists of that many.
func keeps(n int) [][]bool {
	var out [][]bool
	for bits := range 1 << n {
		l := make([]bool, n)
		for i := range l {
			l[i] = bits>>i&1 == 1
		}
		out = append(out, l)
	}
	return out
}

// everyCrash: what begin does is done on new disks again and again, each of
// which then loses other things: all there are, where they are few. Behind
// that all is sure, and nothing befalls the disk any more.
func everyCrash(t *testing.T, quota int, begin func(w *twin)) {
	t.Helper()
	w := twinOf(t, quota)
	begin(w)
	most := len(w.m.notes)
	for _, n := range w.m.notes {
		most += len(n.file.pieces)
	}
	for _, x := range w.m.sure {
		most += len(x.file.pieces)
	}
	for _, keep := range append(keeps(min(most, 9)), nil, slices.Repeat([]bool{true}, most+3)) {
		w := twinOf(t, quota)
		begin(w)
		w.crash(keep)
		text := shown(w.d)
		if n := w.crash([]bool{false, true, false}); n > 0 || shown(w.d) != text {
			t.Errorf("not all was sure behind a crash: %s, then %s", text, shown(w.d))
		}
		w.play(api.OK, steps("create fresh, append fresh x, sync fresh, rename fresh fresher, remove fresher, dir")...)
		if t.Failed() {
			t.Fatalf("with keep %v", keep)
		}
	}
}
