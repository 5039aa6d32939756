package history_test

import (
	"errors"
	"math"
	"math/rand"
	"slices"
	"strconv"
	"testing"

	"hindsight/api"
	"hindsight/fault"
	"hindsight/history"
)

// edges are numbers far outside.
var edges = []int{math.MinInt, math.MinInt + 1, -1 << 32, -2, -1, 1 << 32, math.MaxInt - 1, math.MaxInt}

// is looks whether an error is faults of steps, from outside in, each at its place, with a number behind them.
func is(t *testing.T, name string, err error, want error) {
	t.Helper()
	if want == nil {
		if err != nil {
			t.Errorf("%s: %v", name, err)
		}
		return
	}
	if err == nil || err.Error() != want.Error() || !errors.Is(err, fault.Of(want)) || fault.Path(err) != fault.Path(want) {
		t.Errorf("%s: %v, want %v", name, err, want)
	}
}

// telling is what a history is held against.
type telling struct {
	calls []history.Call
	steps int
}

// last is the place of a process's open call; -1: it has none.
func (m *telling) last(who int) int {
	return slices.IndexFunc(m.calls, func(c history.Call) bool { return c.Who == who && c.To == -1 })
}

func (m *telling) begin(who int, ask string) error {
	if m.last(who) >= 0 {
		return fault.In("begin", who, api.ErrBusy)
	}
	m.calls = append(m.calls, history.Call{Who: who, From: m.steps, To: -1, Ask: ask})
	return nil
}

func (m *telling) end(who int, answer string) error {
	i := m.last(who)
	if i < 0 {
		return fault.In("end", who, api.ErrNone)
	}
	m.calls[i].Answer = answer
	m.calls[i].To = m.steps - 1
	if m.steps == m.calls[i].From {
		m.calls[i].To = m.calls[i].From
	}
	return nil
}

// holds holds all that a history tells, and changes nothing by it, against that.
func (m *telling) holds(t *testing.T, h *history.History) {
	t.Helper()
	if h.Step() != m.steps || !slices.Equal(h.Calls(), m.calls) {
		t.Fatalf("%d steps, %+v, want %d, %+v", h.Step(), h.Calls(), m.steps, m.calls)
	}
}

// P19.1: a call is open, if it ends below 0.
func TestOpen(t *testing.T) {
	for _, to := range append([]int{0, 1, 2}, edges...) {
		for _, from := range append([]int{0, 5}, edges...) {
			c := history.Call{Who: 3, From: from, To: to, Answer: "a"}
			if c.Open() != (to < 0) {
				t.Errorf("Open of %+v: %v", c, c.Open())
			}
		}
	}
	if (history.Call{}).Open() {
		t.Error("the zero call is open")
	}
}

// P19.1: the zero history has no calls, and no steps.
func TestZero(t *testing.T) {
	var h history.History
	for range 2 {
		(&telling{}).holds(t, &h)
		for _, who := range append([]int{0, 1}, edges...) {
			is(t, "End", h.End(who, "a"), fault.In("end", who, api.ErrNone))
		}
	}
}

// P19.1: steps are numbered from 0 on.
func TestPass(t *testing.T) {
	var h history.History
	for i := range 300 {
		if n := h.Pass(); n != i || h.Step() != i+1 {
			t.Fatalf("Pass: %d, want %d; %d steps", n, i, h.Step())
		}
	}
	if len(h.Calls()) != 0 {
		t.Errorf("Calls: %+v", h.Calls())
	}
}

// P19.1: a call is from the next step on, up to the last one.
func TestBeginAndEnd(t *testing.T) {
	var h history.History
	is(t, "Begin", h.Begin(1, "first"), nil)
	h.Pass()
	is(t, "Begin", h.Begin(0, "second"), nil)
	h.Pass()
	h.Pass()
	is(t, "End", h.End(1, "one"), nil)
	is(t, "Begin", h.Begin(1, "third"), nil)
	h.Pass()
	is(t, "End", h.End(1, ""), nil)
	want := []history.Call{{1, 0, 2, "first", "one"}, {0, 1, -1, "second", ""}, {1, 3, 3, "third", ""}}
	if l := h.Calls(); !slices.Equal(l, want) || h.Step() != 4 {
		t.Errorf("Calls: %+v, %d", l, h.Step())
	}
	is(t, "End", h.End(0, "two"), nil)
	want[1].To, want[1].Answer = 3, "two"
	if l := h.Calls(); !slices.Equal(l, want) {
		t.Errorf("Calls: %+v", l)
	}
}

// P19.1: a call that is answered ahead of any step ends where it began.
func TestNoStepBetween(t *testing.T) {
	var h history.History
	m := &telling{}
	for range 4 {
		for range 2 {
			is(t, "Begin", h.Begin(5, "ask"), m.begin(5, "ask"))
			is(t, "End", h.End(5, "answer"), m.end(5, "answer"))
		}
		if l := h.Calls(); l[len(l)-1].To != h.Step() || l[len(l)-1].From != h.Step() {
			t.Errorf("Calls: %+v", l)
		}
		h.Pass()
		m.steps++
		m.holds(t, &h)
	}
}

// P19.1: who has an open call may not ask; who has none isn't answered; nothing changes by it.
func TestBusyAndNone(t *testing.T) {
	for _, who := range append([]int{0, 1, 7}, edges...) {
		var h history.History
		is(t, "End", h.End(who, "x"), fault.In("end", who, api.ErrNone))
		is(t, "Begin", h.Begin(who, "a"), nil)
		h.Pass()
		for range 2 {
			is(t, "Begin", h.Begin(who, "b"), fault.In("begin", who, api.ErrBusy))
			is(t, "End", h.End(who^1, "x"), fault.In("end", who^1, api.ErrNone))
		}
		(&telling{calls: []history.Call{{who, 0, -1, "a", ""}}, steps: 1}).holds(t, &h)
		is(t, "End", h.End(who, "y"), nil)
		for range 2 {
			is(t, "End", h.End(who, "z"), fault.In("end", who, api.ErrNone))
		}
		(&telling{calls: []history.Call{{who, 0, 0, "a", "y"}}, steps: 1}).holds(t, &h)
		is(t, "Begin", h.Begin(who, "c"), nil)
	}
}

// P19.1: the words of faults.
func TestWords(t *testing.T) {
	var h history.History
	h.Begin(3, "a")
	l := []history.Call{{Who: 0, From: 0, To: 1, Answer: "b"}, {Who: 1, From: 2, To: 3}}
	_, none := history.Find(cell{}, "", l)
	_, big := history.Find(cell{}, "", make([]history.Call, 13))
	for _, x := range []struct {
		err        error
		word, path string
	}{
		{h.Begin(3, ""), "begin 3: busy", "begin/busy"},
		{h.End(-4, ""), "end -4: none", "end/none"},
		{history.Order(l, 0, 2), "order 1: range", "order/range"},
		{history.Order(l, 1, 1), "order 1: there", "order/there"},
		{history.Order(l, 0), "order 1: none", "order/none"},
		{history.Order(l, 1, 0), "order 0: conflict", "order/conflict"},
		{history.Replay(cell{}, "", l, 1, 0), "replay 2: order 0: conflict", "replay/order/conflict"},
		{history.Replay(cell{}, "", l, 0, 1), "replay 0: proof", "replay/proof"},
		{none, "find 2: none", "find/none"},
		{big, "find 13: big", "find/big"},
	} {
		if x.err == nil || x.err.Error() != x.word || fault.Path(x.err) != x.path {
			t.Errorf("%v, want %s", x.err, x.word)
		}
	}
}

// P19.1, K3: what Calls answers is new.
func TestSharesNothing(t *testing.T) {
	var h history.History
	h.Begin(0, "a")
	h.Begin(1, "b")
	l := h.Calls()
	h.Pass()
	h.End(0, "x")
	h.Begin(0, "c")
	if !slices.Equal(l, []history.Call{{0, 0, -1, "a", ""}, {1, 0, -1, "b", ""}}) {
		t.Errorf("Calls answered %+v", l)
	}
	l = h.Calls()
	clear(l)
	_ = append(l[:1], history.Call{Who: 9})
	h.End(1, "y")
	if got := h.Calls(); !slices.Equal(got, []history.Call{{0, 0, 0, "a", "x"}, {1, 0, 0, "b", "y"}, {0, 1, -1, "c", ""}}) {
		t.Errorf("Calls: %+v", got)
	}
}

// P19.1: each history has calls of its own.
func TestIsItsOwn(t *testing.T) {
	var h, other history.History
	h.Begin(0, "a")
	h.Pass()
	(&telling{}).holds(t, &other)
	is(t, "End", other.End(0, "x"), fault.In("end", 0, api.ErrNone))
	is(t, "Begin", other.Begin(0, "b"), nil)
	is(t, "End", h.End(0, "y"), nil)
	(&telling{calls: []history.Call{{0, 0, -1, "b", ""}}}).holds(t, &other)
	(&telling{calls: []history.Call{{0, 0, 0, "a", "y"}}, steps: 1}).holds(t, &h)
}

// P19.1: behind any calls.
func TestAnyCalls(t *testing.T) {
	r := rand.New(rand.NewSource(31))
	for range 200 {
		var h history.History
		m := &telling{}
		most := 1 + r.Intn(6)
		for i := range 80 {
			who := r.Intn(most)
			if r.Intn(8) == 0 {
				who = edges[r.Intn(len(edges))]
			}
			switch s := strconv.Itoa(i); r.Intn(3) {
			case 0:
				is(t, "Begin", h.Begin(who, s), m.begin(who, s))
			case 1:
				is(t, "End", h.End(who, s), m.end(who, s))
			default:
				if n := h.Pass(); n != m.steps {
					t.Fatalf("Pass: %d, want %d", n, m.steps)
				}
				m.steps++
			}
			m.holds(t, &h)
		}
	}
}
