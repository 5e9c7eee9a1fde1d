package simobj_test

import (
	"slices"
	"strconv"
	"strings"
	"testing"

	"icehouse/api"
	"icehouse/simobj"
)

// step: a call of a store: "put a xyz", "get a", "delete a", "list p", "tick 5",
// "lag 3", "fail 2 done", "fail 2 not", "now", "calls", "keys", "look a".
type step struct{ call, key, more string }

// steps: of a text, parted by commas.
func steps(text string) []step {
	var out []step
	for part := range strings.SplitSeq(text, ",") {
		w := append(strings.Fields(part), "", "", "")
		if w[0] != "" {
			out = append(out, step{w[0], w[1], w[2]})
		}
	}
	return out
}

func (s step) number() int {
	n, err := strconv.Atoi(s.key)
	if err != nil {
		panic("no number: " + s.key)
	}
	return n
}

// told: an error, and behind OK, or where something stands there all the same, what was answered.
func told(e api.Errno, what string, some bool) string {
	if e == api.OK || some {
		return strconv.Itoa(int(e)) + what
	}
	return strconv.Itoa(int(e))
}

func ofList(l []string) string { return "[" + strings.Join(l, " ") + "]" }

// ask: what the store answers to the step.
func ask(s *simobj.Store, x step) string {
	switch x.call {
	case "put":
		return told(s.Put(x.key, []byte(x.more)), "", false)
	case "get":
		b, e := s.Get(x.key)
		return told(e, strconv.Quote(string(b)), len(b) > 0)
	case "delete":
		return told(s.Delete(x.key), "", false)
	case "list":
		l, e := s.List(x.key)
		return told(e, ofList(l), len(l) > 0)
	case "tick":
		return told(s.Tick(x.number()), "", false)
	case "lag":
		return told(s.Lag(x.number()), "", false)
	case "fail":
		s.Fail(x.number(), x.more == "done")
		return "-"
	case "now":
		return strconv.Itoa(s.Now())
	case "calls":
		return strconv.Itoa(s.Calls())
	case "keys":
		return ofList(s.Keys())
	case "look":
		b, ok := s.Look(x.key)
		return strconv.FormatBool(ok) + strconv.Quote(string(b))
	}
	panic("no call: " + x.call)
}

// story: what a store answers to one step behind the other.
func story(s *simobj.Store, text string) string {
	var out []string
	for _, x := range steps(text) {
		out = append(out, ask(s, x))
	}
	return strings.Join(out, " ")
}

// deed: a Put or a Delete that was done.
type deed struct {
	time      int
	key, text string
	put       bool
}

// model: a store that keeps all that was done, and works out each answer from that.
type model struct {
	most, lag, clock, calls, fault int
	done                           bool
	deeds                          []deed
}

// object: by the last of the deeds.
func (m *model) object(key string) (string, bool) {
	for _, d := range slices.Backward(m.deeds) {
		if d.key == key {
			return d.text, d.put
		}
	}
	return "", false
}

// keys: by the deeds up to that time.
func (m *model) keys(time int, prefix string) []string {
	var out []string
	for _, d := range m.deeds {
		if d.time > time || !strings.HasPrefix(d.key, prefix) {
			continue
		}
		out = slices.DeleteFunc(out, func(key string) bool { return key == d.key })
		if d.put {
			out = append(out, d.key)
		}
	}
	slices.Sort(out)
	return out
}

func mayBe(text string) bool {
	return len(text) <= api.MaxName && strings.IndexFunc(text, func(r rune) bool { return r <= ' ' || r >= 127 }) < 0
}

// refused: what P1102 names ahead, so that it is no call.
func (m *model) refused(x step) api.Errno {
	_, there := m.object(x.key)
	switch {
	case !mayBe(x.key) || x.call != "list" && x.key == "":
		return api.ErrArg
	case x.call == "put" && len(x.more) > api.MaxBytes:
		return api.ErrSize
	case x.call == "put" && !there && len(m.keys(m.clock, "")) >= api.MaxObject:
		return api.ErrFull
	}
	return api.OK
}

// call: of Put, Get, Delete or List.
func (m *model) call(x step) string {
	if e := m.refused(x); e != api.OK {
		return told(e, "", false)
	}
	m.calls++
	end := api.OK
	if m.fault == 1 {
		end = api.ErrFault
	}
	m.fault = max(m.fault-1, 0)
	if end == api.OK || m.done {
		switch x.call {
		case "put":
			m.deeds = append(m.deeds, deed{m.clock, x.key, x.more, true})
		case "delete":
			m.deeds = append(m.deeds, deed{m.clock, x.key, "", false})
		}
	}
	text, there := m.object(x.key)
	switch {
	case end == api.OK && x.call == "get" && !there:
		return told(api.ErrNone, "", false)
	case x.call == "get":
		return told(end, strconv.Quote(text), false)
	case x.call == "list":
		return told(end, ofList(m.keys(m.clock-m.lag, x.key)), false)
	}
	return told(end, "", false)
}

func (m *model) ask(x step) string {
	switch x.call {
	case "tick":
		n := x.number()
		if n < 0 || n > 1<<30 || n > 1<<40-m.clock {
			return "1"
		}
		m.clock += n
		return "0"
	case "lag":
		if x.number() < 0 || x.number() > m.most {
			return "1"
		}
		m.lag = x.number()
		return "0"
	case "fail":
		m.fault, m.done = max(x.number(), 0), x.more == "done"
		return "-"
	case "now":
		return strconv.Itoa(m.clock)
	case "calls":
		return strconv.Itoa(m.calls)
	case "keys":
		return ofList(m.keys(m.clock, ""))
	case "look":
		text, there := m.object(x.key)
		return strconv.FormatBool(there) + strconv.Quote(text)
	}
	return m.call(x)
}

// twin: a store, and its model; a step is answered by both, which must agree.
type twin struct {
	t *testing.T
	s *simobj.Store
	m *model
}

func made(t *testing.T, lag int) *simobj.Store {
	t.Helper()
	s, e := simobj.New(lag)
	if s == nil || e != api.OK {
		t.Fatalf("New(%d): %v %d", lag, s, e)
	}
	return s
}

func twinOf(t *testing.T, lag int) *twin {
	t.Helper()
	w := &twin{t, made(t, lag), &model{most: lag}}
	w.looks()
	return w
}

// brief: what is long is told by its beginning.
func brief(s string) string { return strconv.Quote(s[:min(len(s), 60)]) }

func (w *twin) one(x step) string {
	w.t.Helper()
	got, want := ask(w.s, x), w.m.ask(x)
	if got != want {
		w.t.Errorf("%s %s %s: %s, want %s", x.call, brief(x.key), brief(x.more), brief(got), brief(want))
	}
	return got
}

// do: the step, and then all looks.
func (w *twin) do(x step) string {
	w.t.Helper()
	got := w.one(x)
	w.looks()
	return got
}

// play: the steps of the text.
func (w *twin) play(text string) {
	w.t.Helper()
	for _, x := range steps(text) {
		w.do(x)
	}
}

// looks: whether all looks tell the model. None of them changes anything, so
// that the last ones tell of those ahead of them, too.
func (w *twin) looks() {
	w.t.Helper()
	for range 2 {
		for _, x := range steps("now, calls, keys, look none-such") {
			w.one(x)
		}
		for _, key := range append(w.m.keys(w.m.clock, ""), "", strings.Repeat("a", 65), "a b") {
			w.one(step{"look", key, ""})
		}
	}
}

// every: each object is got, and lists are asked for with every lag that may
// be: at last what the store has for all that can be asked of it.
func (w *twin) every() {
	w.t.Helper()
	for _, key := range w.m.keys(w.m.clock, "") {
		w.one(step{"get", key, ""})
	}
	for lag := range w.m.most + 1 {
		w.one(step{"lag", strconv.Itoa(lag), ""})
		w.one(step{"list", "", ""})
	}
}
