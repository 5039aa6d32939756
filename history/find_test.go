package history_test

import (
	"math/rand"
	"runtime"
	"slices"
	"strconv"
	"strings"
	"testing"

	"hindsight/api"
	"hindsight/fault"
	"hindsight/history"
)

// cell holds a text: "w" and a text writes it, "s" and a text swaps it, all else reads it.
type cell struct{}

func (cell) Next(state, ask string) (string, string) {
	switch {
	case strings.HasPrefix(ask, "w"):
		return "", ask[1:]
	case strings.HasPrefix(ask, "s"):
		return state, ask[1:]
	}
	return state, state
}

// queue is bytes: "e" and a byte comes in, all else takes the first one.
type queue struct{}

func (queue) Next(state, ask string) (string, string) {
	switch {
	case strings.HasPrefix(ask, "e"):
		return "", state + ask[1:]
	case state == "":
		return "none", ""
	}
	return state[:1], state[1:]
}

// counter adds up: what is asked is ignored.
type counter struct{}

func (counter) Next(state, _ string) (string, string) {
	n, _ := strconv.Atoi(state)
	return strconv.Itoa(n + 1), strconv.Itoa(n + 1)
}

// counted is a model whose calls are counted.
type counted struct {
	history.Model
	n int
}

func (c *counted) Next(state, ask string) (string, string) {
	c.n++
	return c.Model.Next(state, ask)
}

// replayed is what Replay is to answer, told by the document's words.
func replayed(m history.Model, state string, l []history.Call, order []int) error {
	if err := mayBe(l, order); err != nil {
		return fault.In("replay", len(order), err)
	}
	for at, i := range order {
		var answer string
		answer, state = m.Next(state, l[i].Ask)
		if l[i].To >= 0 && answer != l[i].Answer {
			return fault.In("replay", at, api.ErrProof)
		}
	}
	return nil
}

// there is whether an order of calls is replayed, in which those of stand stand first, of all orders that there are.
func there(m history.Model, state string, l []history.Call, stand []int) bool {
	if replayed(m, state, l, stand) == nil {
		return true
	}
	for i := range l {
		if !slices.Contains(stand, i) && there(m, state, l, append(slices.Clone(stand), i)) {
			return true
		}
	}
	return false
}

// found looks whether Find finds an order, where there is one.
func found(t *testing.T, m history.Model, state string, l []history.Call, want bool) {
	t.Helper()
	order, err := history.Find(m, state, l)
	if want {
		is(t, "Find", err, nil)
		is(t, "Replay", replayed(m, state, l, order), nil)
		is(t, "Replay", history.Replay(m, state, l, order...), nil)
		return
	}
	is(t, "Find", err, fault.In("find", len(l), api.ErrNone))
	if order != nil {
		t.Errorf("Find: %v beside an error", order)
	}
}

// P19.1: calls are replayed one behind the other, from a state on; what an open one is answered doesn't matter, but that it was asked.
func TestReplay(t *testing.T) {
	l := []history.Call{{0, 0, 3, "wa", ""}, {1, 1, 2, "r", "z"}, {2, 2, -1, "sb", "whatever"}, {1, 4, 5, "r", "b"}, {0, 5, 6, "sc", "b"}}
	for _, x := range []struct {
		state string
		order []int
		at    int
		err   error
	}{
		{"z", []int{1, 0, 2, 3, 4}, 0, nil},
		{"z", []int{1, 0, 2, 4, 3}, 4, api.ErrProof},
		{"", []int{1, 0, 2, 3, 4}, 0, api.ErrProof},
		{"z", []int{0, 1, 2, 3, 4}, 1, api.ErrProof},
		{"z", []int{1, 0, 3, 4}, 2, api.ErrProof},
		{"z", []int{1, 0, 3, 4, 2}, 2, api.ErrProof},
		{"z", []int{2, 1, 0, 3, 4}, 1, api.ErrProof},
		{"z", []int{1, 2, 0, 3, 4}, 3, api.ErrProof},
		{"z", []int{1, 0, 2, 3}, 4, fault.In("order", 4, api.ErrNone)},
		{"z", nil, 0, fault.In("order", 0, api.ErrNone)},
		{"z", []int{1, 3, 0, 2, 4}, 5, fault.In("order", 1, api.ErrConflict)},
		{"", []int{0, 1, 5, 2}, 4, fault.In("order", 2, api.ErrRange)},
		{"", []int{0, 1, 0}, 3, fault.In("order", 2, api.ErrThere)},
	} {
		want := fault.In("replay", x.at, x.err)
		is(t, "Replay", history.Replay(cell{}, x.state, l, x.order...), want)
		is(t, "replayed", replayed(cell{}, x.state, l, x.order), want)
	}
	is(t, "Replay", history.Replay(cell{}, "z", nil), nil)
	is(t, "Replay", history.Replay(cell{}, "z", l[2:3]), nil)
}

// P19.1, P19.2: of no calls, and of open ones alone, an order is there.
func TestFindNothing(t *testing.T) {
	for _, l := range [][]history.Call{nil, {}, {{0, 0, -1, "wa", ""}}, {{0, 0, -1, "wa", "x"}, {1, 0, -9, "r", "y"}}} {
		for _, m := range []history.Model{cell{}, queue{}, counter{}} {
			found(t, m, "z", l, true)
		}
	}
}

// P19.2: what is found, and what isn't there.
func TestFind(t *testing.T) {
	for _, x := range []struct {
		m     history.Model
		state string
		l     []history.Call
		want  bool
	}{
		{cell{}, "a", []history.Call{{0, 0, 0, "r", "a"}}, true},
		{cell{}, "a", []history.Call{{0, 0, 0, "r", "b"}}, false},
		// At the same time either may be the first one.
		{cell{}, "a", []history.Call{{0, 0, 5, "wb", ""}, {1, 2, 3, "r", "a"}}, true},
		{cell{}, "a", []history.Call{{0, 0, 5, "wb", ""}, {1, 2, 3, "r", "b"}}, true},
		{cell{}, "a", []history.Call{{0, 0, 5, "wb", ""}, {1, 5, 9, "r", "a"}}, true},
		// One behind the other, it may not.
		{cell{}, "a", []history.Call{{0, 0, 5, "wb", ""}, {1, 6, 9, "r", "a"}}, false},
		{cell{}, "a", []history.Call{{1, 6, 9, "r", "a"}, {0, 0, 5, "wb", ""}}, false},
		// An open call may have been done, or not; but not ahead of its first step.
		{cell{}, "a", []history.Call{{0, 0, -1, "wb", ""}, {1, 6, 9, "r", "a"}}, true},
		{cell{}, "a", []history.Call{{0, 0, -1, "wb", ""}, {1, 6, 9, "r", "b"}}, true},
		{cell{}, "a", []history.Call{{0, 9, -1, "wb", ""}, {1, 6, 9, "r", "b"}}, true},
		{cell{}, "a", []history.Call{{0, 10, -1, "wb", ""}, {1, 6, 9, "r", "b"}}, false},
		{cell{}, "a", []history.Call{{0, 0, -1, "wb", ""}, {1, 6, 9, "r", "b"}, {1, 10, 11, "r", "a"}}, false},
		{cell{}, "a", []history.Call{{0, 0, -1, "wb", ""}, {2, 0, -1, "wa", ""}, {1, 6, 9, "r", "b"}, {1, 10, 11, "r", "a"}}, true},
		// A call that ends ahead of its first step is ahead of itself, and of others alike; then none may be.
		{cell{}, "a", []history.Call{{0, 5, 1, "r", "a"}}, true},
		{cell{}, "a", []history.Call{{0, 5, 1, "r", "a"}, {1, 5, 1, "r", "a"}}, false},
		{queue{}, "", []history.Call{{0, 0, 3, "ea", ""}, {1, 0, 3, "eb", ""}, {0, 4, 5, "d", "b"}, {1, 4, 5, "d", "a"}}, true},
		{queue{}, "", []history.Call{{0, 0, 3, "ea", ""}, {1, 4, 5, "eb", ""}, {0, 6, 7, "d", "b"}, {1, 6, 7, "d", "a"}}, true},
		{queue{}, "", []history.Call{{0, 0, 3, "ea", ""}, {1, 4, 5, "eb", ""}, {0, 6, 7, "d", "b"}, {1, 8, 9, "d", "a"}}, false},
		{counter{}, "7", []history.Call{{0, 0, 9, "", "10"}, {1, 0, 9, "", "8"}, {2, 0, 9, "", "9"}}, true},
		{counter{}, "7", []history.Call{{0, 0, 9, "", "10"}, {1, 0, 9, "", "8"}, {2, 0, 9, "", "8"}}, false},
		{counter{}, "7", []history.Call{{0, 0, 9, "", "10"}, {1, 0, 9, "", "8"}, {2, 0, -1, "", ""}}, true},
	} {
		if there(x.m, x.state, x.l, nil) != x.want {
			t.Fatalf("%+v", x.l)
		}
		found(t, x.m, x.state, x.l, x.want)
	}
}

// P19.1: at most 12 calls are searched.
func TestFindBig(t *testing.T) {
	if history.MostFind != 12 {
		t.Errorf("MostFind: %d", history.MostFind)
	}
	for n := range 16 {
		l := make([]history.Call, n)
		for i := range l {
			l[i] = history.Call{Who: i, To: 5, Answer: strconv.Itoa(n - i)}
		}
		if n <= 12 {
			found(t, counter{}, "", l, true)
			found(t, counter{}, "1", l, n == 0)
			continue
		}
		order, err := history.Find(counter{}, "", l)
		is(t, "Find", err, fault.In("find", n, api.ErrBig))
		if order != nil {
			t.Errorf("Find: %v", order)
		}
		for i := range l {
			l[i].To = -1 // they count, too
		}
		_, err = history.Find(counter{}, "", l)
		is(t, "Find", err, fault.In("find", n, api.ErrBig))
	}
}

// asked is an ask of a model.
func asked(r *rand.Rand, m history.Model) string {
	s := string(rune('a' + r.Intn(3)))
	if _, is := m.(queue); is {
		return []string{"e" + s, "d"}[r.Intn(2)]
	}
	return []string{"w" + s, "s" + s, "r", "r"}[r.Intn(4)]
}

// run is a history of calls of a model, each of which was done at a step of its own, and whose answers are changed here and there.
func run(r *rand.Rand, m history.Model, state string, n, procs, changed int) []history.Call {
	var h history.History
	asks, answers := map[int]string{}, map[int]string{}
	for {
		who := r.Intn(procs)
		if _, open := asks[who]; !open {
			if len(h.Calls()) == n {
				break
			}
			asks[who] = asked(r, m)
			h.Begin(who, asks[who])
		}
		h.Pass()
		answer, done := answers[who]
		if !done && r.Intn(2) == 0 {
			answers[who], state = m.Next(state, asks[who])
		} else if done && r.Intn(2) == 0 {
			if r.Intn(100) < changed {
				answer = string(rune('a' + r.Intn(3)))
			}
			h.End(who, answer)
			delete(asks, who)
			delete(answers, who)
		}
	}
	l := h.Calls()
	r.Shuffle(len(l), func(i, k int) { l[i], l[k] = l[k], l[i] })
	return l
}

// P19.2: of any few calls, just if all orders that there are have one.
func TestFindsJustIf(t *testing.T) {
	r := rand.New(rand.NewSource(35))
	had := [2]int{}
	for i := range 3000 {
		m := []history.Model{cell{}, queue{}, counter{}}[i%3]
		l := run(r, m, "a", r.Intn(6), 1+r.Intn(5), 30)
		if i%5 == 0 {
			steps := anyOf(r, len(l))
			for i := range l {
				l[i].From, l[i].To = steps[i].From, steps[i].To
			}
		}
		state := []string{"a", "a", "b", ""}[r.Intn(4)]
		want := there(m, state, l, nil)
		found(t, m, state, l, want)
		if want {
			had[1]++
		} else {
			had[0]++
		}
	}
	if min(had[0], had[1]) < 500 {
		t.Errorf("not found, found: %d", had)
	}
}

// P19.2: what was done is found, of as many calls as may be, also if all are at the same time.
func TestFindsWhatWasDone(t *testing.T) {
	r := rand.New(rand.NewSource(36))
	for i := range 600 {
		m := []history.Model{cell{}, queue{}, counter{}}[i%3]
		l := run(r, m, "a", 12, 1+r.Intn(12), 0)
		found(t, m, "a", l, true)
	}
}

// P19.2: a read of what was never written is found in no order, and that is told soon: the same calls with the same state behind them aren't tried twice.
func TestFindIsSoon(t *testing.T) {
	l := make([]history.Call, 12)
	for i := range l {
		l[i] = history.Call{Who: i, To: 1, Ask: "w" + string(rune('a'+i))}
		if i%2 == 1 {
			l[i].To = -1
		}
	}
	l[5] = history.Call{Who: 5, To: 1, Ask: "r", Answer: "never"}
	m := &counted{Model: cell{}}
	found(t, m, "z", l, false)
	if most := 12 * 13 << 12; m.n > most {
		t.Errorf("%d calls of the model, want %d at most", m.n, most)
	}
}

// P19.2: a state of its own for each order.
func TestFindStatesOfTheirOwn(t *testing.T) {
	l := make([]history.Call, 9)
	for i := range l {
		l[i] = history.Call{Who: i, To: 20, Ask: "e" + string(rune('a'+i))}
	}
	for i, s := range "hgf" {
		l = append(l, history.Call{Who: i, From: 30 + i, To: 30 + i, Ask: "d", Answer: string(s)})
	}
	found(t, queue{}, "", l, true)
	l[11].Answer = "h"
	l = append(l[3:9:9], l[9:]...)
	found(t, queue{}, "", l, false)
}

// great is a model whose states are great, and of their own for each order; it looks how much is in use meanwhile.
type great struct {
	n    int
	most uint64
}

func (g *great) Next(state, ask string) (string, string) {
	if g.n++; g.n%100 == 0 {
		var m runtime.MemStats
		runtime.ReadMemStats(&m)
		g.most = max(g.most, m.HeapInuse)
	}
	state = strings.TrimRight(state, ".") + ask
	return "", state + strings.Repeat(".", 1<<17)
}

// P1, P19.2: a search keeps no more than there is room for.
func TestFindKeepsNoMore(t *testing.T) {
	l := make([]history.Call, 7)
	for i := range l {
		l[i] = history.Call{Who: i, To: 1, Ask: string(rune('a' + i))}
	}
	l[6].Answer = "never"
	g := &great{}
	found(t, g, "", l, false)
	if g.n < 2000 || g.most > 1<<27 {
		t.Errorf("%d calls of the model, %d bytes in use", g.n, g.most)
	}
}

// P1, K7: no call panics, whatever calls there are.
func TestNoPanic(t *testing.T) {
	r := rand.New(rand.NewSource(37))
	for range 2000 {
		l := anyOf(r, r.Intn(14))
		order := make([]int, r.Intn(14))
		for i := range order {
			order[i] = r.Intn(16) - 1
		}
		history.Order(l, order...)
		for _, m := range []history.Model{cell{}, counter{}} {
			history.Replay(m, "", l, order...)
			history.Find(m, "a", l)
		}
	}
}
