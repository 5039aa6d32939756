package history_test

import (
	"math"
	"math/rand"
	"slices"
	"testing"

	"hindsight/api"
	"hindsight/fault"
	"hindsight/history"
)

// ahead is by the document's words.
func ahead(c, d history.Call) bool {
	return c.To >= 0 && c.To < d.From
}

// mayBe is what Order is to answer, told pair by pair.
func mayBe(l []history.Call, order []int) error {
	for at, i := range order {
		if i < 0 || i >= len(l) {
			return fault.In("order", at, api.ErrRange)
		}
		if slices.Contains(order[:at], i) {
			return fault.In("order", at, api.ErrThere)
		}
	}
	for i, c := range l {
		if c.To >= 0 && !slices.Contains(order, i) {
			return fault.In("order", i, api.ErrNone)
		}
	}
	for at, i := range order {
		for _, k := range order[at+1:] {
			if ahead(l[k], l[i]) {
				return fault.In("order", at, api.ErrConflict)
			}
		}
	}
	return nil
}

// between are calls of processes, by their first and last steps.
func between(steps ...[2]int) []history.Call {
	l := make([]history.Call, len(steps))
	for i, s := range steps {
		l[i] = history.Call{Who: i, From: s[0], To: s[1]}
	}
	return l
}

// P19.1: the chapter's example.
func TestExample(t *testing.T) {
	l := between([2]int{3, 5}, [2]int{4, 4})
	is(t, "Order", history.Order(l, 0, 1), nil)
	is(t, "Order", history.Order(l, 1, 0), nil)
}

// P19.1: which of two calls may stand behind the other.
func TestOrderOfTwo(t *testing.T) {
	for _, x := range []struct {
		a, b     [2]int
		ab, ba   bool
		aIs, bIs bool // may be left out
	}{
		{[2]int{0, 1}, [2]int{2, 3}, true, false, false, false},
		{[2]int{0, 2}, [2]int{2, 3}, true, true, false, false}, // at one step both are there
		{[2]int{0, 0}, [2]int{1, 1}, true, false, false, false},
		{[2]int{0, 0}, [2]int{0, 0}, true, true, false, false},
		{[2]int{0, 9}, [2]int{4, 5}, true, true, false, false},
		{[2]int{0, -1}, [2]int{4, 5}, true, true, true, false},
		{[2]int{9, -1}, [2]int{4, 5}, false, true, true, false},
		{[2]int{5, -1}, [2]int{4, 5}, true, true, true, false},
		{[2]int{9, -7}, [2]int{4, math.MinInt}, true, true, true, true},
		{[2]int{0, 0}, [2]int{math.MaxInt, math.MaxInt}, true, false, false, false},
		{[2]int{0, math.MaxInt}, [2]int{math.MaxInt, -1}, true, true, false, true},
		{[2]int{math.MinInt, 0}, [2]int{-5, 3}, true, true, false, false},
		{[2]int{9, 1}, [2]int{8, 2}, false, false, false, false}, // each is ahead of the other
		{[2]int{9, 1}, [2]int{0, 1}, false, true, false, false},
	} {
		l := between(x.a, x.b)
		for _, c := range []struct {
			may   bool
			e     api.Errno
			at    int
			order []int
		}{
			{x.ab, api.ErrConflict, 0, []int{0, 1}}, {x.ba, api.ErrConflict, 0, []int{1, 0}},
			{x.bIs, api.ErrNone, 1, []int{0}}, {x.aIs, api.ErrNone, 0, []int{1}},
			{x.aIs && x.bIs, api.ErrNone, map[bool]int{true: 1}[x.aIs], nil},
		} {
			var want error
			if !c.may {
				want = fault.In("order", c.at, c.e)
			}
			is(t, "Order", history.Order(l, c.order...), want)
			is(t, "mayBe", mayBe(l, c.order), want)
		}
	}
}

// P19.1: which error comes first, and where.
func TestOrderErrors(t *testing.T) {
	l := between([2]int{0, 1}, [2]int{2, 3}, [2]int{4, -1}, [2]int{2, 5}, [2]int{6, 7})
	for _, x := range []struct {
		order []int
		at    int
		e     api.Errno
	}{
		{nil, 0, api.ErrNone},
		{[]int{0}, 1, api.ErrNone},
		{[]int{0, 1, 2}, 3, api.ErrNone},
		{[]int{0, 1, 3, 4}, 0, api.OK},
		{[]int{0, 3, 1, 4}, 0, api.OK},
		{[]int{0, 3, 1, 2, 4}, 0, api.OK},
		{[]int{0, 1, 2, 3, 4}, 0, api.OK},
		{[]int{0, 1, 3, 4, 2}, 0, api.OK},
		{[]int{0, 2, 1, 3, 4}, 1, api.ErrConflict},
		{[]int{0, 2, 3, 1, 4}, 1, api.ErrConflict},
		{[]int{0, 3, 2, 1, 4}, 2, api.ErrConflict},
		{[]int{0, 1, 4, 3}, 2, api.ErrConflict},
		{[]int{4, 3, 2, 1, 0}, 0, api.ErrConflict},
		{[]int{0, 1, 3, 4, 5}, 4, api.ErrRange},
		{[]int{-1, 0}, 0, api.ErrRange},
		{[]int{0, 0, 9}, 1, api.ErrThere},
		{[]int{9, 0, 0}, 0, api.ErrRange},
		{[]int{4, 4}, 1, api.ErrThere},              // ahead of what is wanting, and of what stands behind
		{[]int{4, 1}, 0, api.ErrNone},               // ahead of what stands behind
		{[]int{2, 1, 3, 4, 0, 2}, 5, api.ErrThere},  // an open one, too
		{[]int{0, 1, 3, 4, 2, -9}, 5, api.ErrRange}, // behind all
	} {
		is(t, "Order", history.Order(l, x.order...), fault.In("order", x.at, x.e))
		is(t, "Order", history.Order(append(l, history.Call{To: -1}), x.order...), mayBe(append(l, history.Call{To: -1}), x.order))
	}
	for _, i := range edges {
		is(t, "Order", history.Order(l, 0, i), fault.In("order", 1, api.ErrRange))
		is(t, "Order", history.Order(nil, i), fault.In("order", 0, api.ErrRange))
	}
	is(t, "Order", history.Order(nil), nil)
	is(t, "Order", history.Order([]history.Call{}, []int{}...), nil)
}

// anyOf is calls, some of them open, some of them such as no history has.
func anyOf(r *rand.Rand, n int) []history.Call {
	l := make([]history.Call, n)
	for i := range l {
		from := r.Intn(12) - 1
		l[i] = history.Call{Who: r.Intn(3), From: from, To: from + r.Intn(8)}
		switch r.Intn(12) {
		case 0:
			l[i].To = from - 1 - r.Intn(3)
		case 1, 2:
			l[i].To = -1
		case 3:
			l[i].To = edges[r.Intn(len(edges))]
		case 4:
			l[i].From = edges[r.Intn(len(edges))]
		}
	}
	return l
}

// P19.1: of any calls, in any order.
func TestAnyOrders(t *testing.T) {
	r := rand.New(rand.NewSource(32))
	had := map[api.Errno]int{}
	for range 40000 {
		l := anyOf(r, r.Intn(7))
		order := r.Perm(len(l))
		if r.Intn(2) == 0 {
			slices.SortStableFunc(order, func(a, b int) int { return l[a].From - l[b].From })
		}
		for range r.Intn(3) {
			if i := r.Intn(len(order) + 1); i < len(order) && r.Intn(2) == 0 {
				order = slices.Delete(order, i, i+1)
			} else {
				order = slices.Insert(order, i, r.Intn(len(l)+1))
			}
		}
		want := mayBe(l, order)
		had[fault.Of(want)]++
		is(t, "Order", history.Order(l, order...), want)
	}
	for _, e := range []api.Errno{api.OK, api.ErrRange, api.ErrThere, api.ErrNone, api.ErrConflict} {
		if had[e] < 300 {
			t.Errorf("%v: only %d times", e, had[e])
		}
	}
}

// P19.1, K3: calls, and an order, that are handed in stay.
func TestOrderChangesNothing(t *testing.T) {
	l := between([2]int{0, 5}, [2]int{1, 3}, [2]int{0, -1}, [2]int{4, 6})
	order := []int{1, 2, 3, 0}
	keptCalls, kept := slices.Clone(l), slices.Clone(order)
	for range 2 {
		is(t, "Order", history.Order(l, order...), nil)
		is(t, "Replay", history.Replay(cell{}, "", l, order...), nil)
		if _, err := history.Find(cell{}, "", l); err != nil {
			t.Errorf("Find: %v", err)
		}
		if !slices.Equal(l, keptCalls) || !slices.Equal(order, kept) {
			t.Errorf("%+v, %v", l, order)
		}
	}
}

// P19.1: of many calls it is told as soon.
func TestOrderOfMany(t *testing.T) {
	const n = 1 << 20
	l := make([]history.Call, n)
	order := make([]int, n)
	for i := range l {
		l[i] = history.Call{Who: i % 64, From: i, To: i + 63}
		order[i] = i
	}
	is(t, "Order", history.Order(l, order...), nil)
	order[n-1], order[n/2] = order[n/2], order[n-1]
	is(t, "Order", history.Order(l, order...), fault.In("order", n/2, api.ErrConflict))
	is(t, "Order", history.Order(l, order[:n-1]...), fault.In("order", n/2, api.ErrNone))
}

// P19.3: a step of its own of each call, from its first one to its last one.
func TestPoints(t *testing.T) {
	r := rand.New(rand.NewSource(33))
	for range 3000 {
		n := r.Intn(20)
		steps := r.Perm(3 * n)[:n]
		l := make([]history.Call, n)
		var order []int
		for i, step := range steps {
			l[i] = history.Call{Who: i, From: step - r.Intn(9), To: step + r.Intn(9)}
			if r.Intn(4) == 0 {
				l[i].To = -1
			}
			if !l[i].Open() || r.Intn(2) == 0 {
				order = append(order, i)
			}
		}
		slices.SortFunc(order, func(a, b int) int { return steps[a] - steps[b] })
		is(t, "Order", history.Order(l, order...), nil)
	}
}

// P19.3: the points of a history, in which each call was done at one step of its own.
func TestPointsOfHistory(t *testing.T) {
	r := rand.New(rand.NewSource(34))
	for range 300 {
		var h history.History
		var order []int
		place, done := map[int]int{}, map[int]bool{}
		for range 150 {
			who := r.Intn(5)
			if _, open := place[who]; !open {
				place[who] = len(h.Calls())
				h.Begin(who, "")
			}
			h.Pass()
			if !done[who] && r.Intn(3) == 0 {
				done[who] = true
				order = append(order, place[who])
			}
			if done[who] && r.Intn(2) == 0 {
				h.End(who, "")
				delete(place, who)
				done[who] = false
			}
		}
		is(t, "Order", history.Order(h.Calls(), order...), nil)
	}
}
