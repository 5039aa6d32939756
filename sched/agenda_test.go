package sched_test

import (
	"maps"
	"math"
	"math/rand"
	"runtime"
	"slices"
	"strconv"
	"strings"
	"testing"

	"hindsight/sched"
)

// todo is what an agenda is held against: all that is to be done, whose it is, in the order in which it was added.
type todo []struct {
	who   int
	thing string
}

func (l *todo) add(who int, things ...string) {
	for _, thing := range things {
		*l = append(*l, struct {
			who   int
			thing string
		}{who, thing})
	}
}

func (l *todo) take(who int) (string, bool) {
	for i, x := range *l {
		if x.who == who {
			*l = slices.Delete(*l, i, i+1)
			return x.thing, true
		}
	}
	return "", false
}

// holds holds all that an agenda tells, and changes nothing by it, against that.
func (l *todo) holds(t *testing.T, a *sched.Agenda) {
	t.Helper()
	left := map[int]int{}
	for _, x := range *l {
		left[x.who]++
	}
	if want := slices.Sorted(maps.Keys(left)); !slices.Equal(a.Who(), want) {
		t.Fatalf("Who: %v, want %v", a.Who(), want)
	}
	for _, who := range append([]int{0, 1, 2, 3, 4}, edges...) {
		if a.Left(who) != left[who] {
			t.Fatalf("Left(%d): %d, want %d", who, a.Left(who), left[who])
		}
	}
}

// is looks whether the next thing is that one.
func is(t *testing.T, a *sched.Agenda, who int, thing string, there bool) {
	t.Helper()
	if s, ok := a.Take(who); s != thing || ok != there {
		t.Fatalf("Take(%d): %q, %v, want %q, %v", who, s, ok, thing, there)
	}
}

// P17.1: nothing is to be done, at first, and when all was taken.
func TestPlan(t *testing.T) {
	a := sched.Plan()
	none := &todo{}
	for range 3 {
		none.holds(t, a)
		for _, who := range append([]int{0, 1}, edges...) {
			is(t, a, who, "", false)
			a.Add(who)
			a.Add(who, []string{}...)
		}
		none.holds(t, a)
		a.Add(1, "a", "b")
		is(t, a, 1, "a", true)
		is(t, a, 1, "b", true)
	}
	none.holds(t, a)
}

// P17.1: things are taken in their order, each process's for itself.
func TestTake(t *testing.T) {
	a := sched.Plan()
	a.Add(2, "a", "b")
	a.Add(0, "x")
	a.Add(2, "c")
	a.Add(2)
	if a.Left(2) != 3 || a.Left(0) != 1 || a.Left(1) != 0 || !slices.Equal(a.Who(), []int{0, 2}) {
		t.Errorf("%d, %d, %d, %v", a.Left(2), a.Left(0), a.Left(1), a.Who())
	}
	is(t, a, 2, "a", true)
	a.Add(2, "d")
	is(t, a, 1, "", false)
	is(t, a, 0, "x", true)
	is(t, a, 0, "", false)
	for i, s := range []string{"b", "c", "d"} {
		if a.Left(2) != 3-i || !slices.Equal(a.Who(), []int{2}) {
			t.Errorf("%d, %v", a.Left(2), a.Who())
		}
		is(t, a, 2, s, true)
	}
	is(t, a, 2, "", false)
	if len(a.Who()) != 0 {
		t.Errorf("Who: %v", a.Who())
	}
}

// P17.1: a thing is any text, also an empty one, and one that is there already.
func TestAnyTexts(t *testing.T) {
	a := sched.Plan()
	l := []string{"", "a", "a", "", "\x00", "\xff\xfe", strings.Repeat("long", 1000), "", ""}
	a.Add(5, l...)
	a.Add(5, "")
	for i, s := range append(l, "") {
		if a.Left(5) != len(l)+1-i {
			t.Errorf("Left: %d", a.Left(5))
		}
		is(t, a, 5, s, true)
	}
	is(t, a, 5, "", false)
}

// P17.1: processes are any numbers, and are told rising.
func TestAnyProcesses(t *testing.T) {
	a, l := sched.Plan(), &todo{}
	for i, who := range []int{7, math.MaxInt, -1, math.MinInt, 0, 1 << 32, -2} {
		a.Add(who, strconv.Itoa(i), "more")
		l.add(who, strconv.Itoa(i), "more")
	}
	l.holds(t, a)
	if !slices.Equal(a.Who(), []int{math.MinInt, -2, -1, 0, 7, 1 << 32, math.MaxInt}) {
		t.Errorf("Who: %v", a.Who())
	}
	is(t, a, math.MinInt, "3", true)
	is(t, a, math.MinInt, "more", true)
	is(t, a, math.MaxInt, "1", true)
	if !slices.Equal(a.Who(), []int{-2, -1, 0, 7, 1 << 32, math.MaxInt}) {
		t.Errorf("Who: %v", a.Who())
	}
}

// P17.1, K3: the things that were handed in stay, and aren't kept; what Who answers is new.
func TestAgendaSharesNothing(t *testing.T) {
	a := sched.Plan()
	l := make([]string, 3, 10)
	copy(l, []string{"a", "b", "c"})
	a.Add(0, l...)
	a.Add(1, l...)
	l[1] = "other"
	a.Add(0, "d")
	if l[:4][3] != "" {
		t.Errorf("Add changed what is behind a list: %q", l[:4])
	}
	for _, s := range []string{"a", "b", "c", "d"} {
		is(t, a, 0, s, true)
	}
	is(t, a, 1, "a", true)
	is(t, a, 1, "b", true)
	if !slices.Equal(l, []string{"a", "other", "c"}) {
		t.Errorf("Take changed %q", l)
	}
	a.Add(0, "e")
	who := a.Who()
	who[0], who[1] = 9, 9
	if !slices.Equal(a.Who(), []int{0, 1}) {
		t.Errorf("Who: %v", a.Who())
	}
	who = a.Who()
	is(t, a, 0, "e", true)
	if !slices.Equal(who, []int{0, 1}) {
		t.Errorf("behind a Take, Who was: %v", who)
	}
}

// P17.1: each agenda has things of its own.
func TestPlanIsItsOwn(t *testing.T) {
	a, other := sched.Plan(), sched.Plan()
	a.Add(0, "a")
	(&todo{}).holds(t, other)
	other.Add(0, "b")
	is(t, a, 0, "a", true)
	is(t, other, 0, "b", true)
}

// P17.1: behind any calls.
func TestAgendaAnyCalls(t *testing.T) {
	r := rand.New(rand.NewSource(23))
	texts := []string{"", "a", "b", "ab", "\x00", "long text"}
	for range 300 {
		a, l := sched.Plan(), &todo{}
		adds := 2 + r.Intn(4)
		for range 120 {
			who := r.Intn(5)
			if r.Intn(10) == 0 {
				who = edges[r.Intn(len(edges))]
			}
			if r.Intn(adds) == 0 {
				things := make([]string, r.Intn(5))
				for i := range things {
					things[i] = texts[r.Intn(len(texts))]
				}
				a.Add(who, things...)
				l.add(who, things...)
			} else {
				s, ok := l.take(who)
				is(t, a, who, s, ok)
			}
			l.holds(t, a)
		}
	}
}

// inUse is how many bytes are in use.
func inUse() uint64 {
	runtime.GC()
	var m runtime.MemStats
	runtime.ReadMemStats(&m)
	return m.HeapAlloc
}

// P17.1: of what was taken nothing is kept.
func TestAgendaKeepsNoMore(t *testing.T) {
	const n, size = 20, 1 << 18
	a := sched.Plan()
	for i := range n {
		a.Add(0, strings.Repeat(strconv.Itoa(i%10), size))
	}
	a.Add(0, "last")
	before := inUse()
	for range n {
		a.Take(0)
	}
	if after := inUse(); after+n*size*9/10 > before {
		t.Errorf("%d bytes, then %d", before, after)
	}
	is(t, a, 0, "last", true)
	if len(a.Who()) != 0 {
		t.Errorf("Who: %v", a.Who())
	}
}
