package rank_test

import (
	"math"
	"math/rand"
	"slices"
	"testing"

	"hindsight/rank"
)

// add is things of the ticks, each of whom its place tells.
func add(q *rank.Queue, ticks ...int) {
	for who, tick := range ticks {
		q.Add(tick, who)
	}
}

// takes takes all: whose, in their order.
func takes(q *rank.Queue) []int {
	var l []int
	for {
		_, who, ok := q.Take()
		if !ok {
			return l
		}
		l = append(l, who)
	}
}

// none looks whether a queue says that there is nothing.
func none(t *testing.T, name string, q *rank.Queue) {
	t.Helper()
	if n := q.Len(); n != 0 {
		t.Errorf("%s: %d are left", name, n)
	}
	if tick, who, ok := q.First(); tick != 0 || who != 0 || ok {
		t.Errorf("%s: First: %d, %d, %v", name, tick, who, ok)
	}
	if tick, who, ok := q.Take(); tick != 0 || who != 0 || ok {
		t.Errorf("%s: Take: %d, %d, %v", name, tick, who, ok)
	}
	if n := q.Drop(0); n != 0 {
		t.Errorf("%s: Drop: %d", name, n)
	}
	if l := q.Due(math.MaxInt); len(l) != 0 {
		t.Errorf("%s: Due: %v", name, l)
	}
}

// P4.1: nothing, at first and when all is gone.
func TestNone(t *testing.T) {
	q := rank.New()
	none(t, "new", q)
	none(t, "new, asked before", q)
	q.Add(5, 7)
	q.Take()
	none(t, "taken", q)
	q.Add(5, 7)
	q.Drop(7)
	none(t, "dropped", q)
	q.Add(5, 7)
	q.Due(5)
	none(t, "due", q)
	q.Add(-3, 8)
	if tick, who, ok := q.First(); tick != -3 || who != 8 || !ok || q.Len() != 1 {
		t.Errorf("behind nothing: %d, %d, %v", tick, who, ok)
	}
}

// P4.1: each queue has things of its own.
func TestNewIsItsOwn(t *testing.T) {
	q, other := rank.New(), rank.New()
	q.Add(1, 1)
	none(t, "the other one", other)
	if q.Len() != 1 {
		t.Errorf("Len: %d", q.Len())
	}
}

// P4.1: First changes nothing; Take takes that.
func TestFirstAndTake(t *testing.T) {
	q := rank.New()
	add(q, 5, 3, 5)
	for n, want := range [][2]int{{3, 1}, {5, 0}, {5, 2}} {
		for range 2 {
			if tick, who, ok := q.First(); tick != want[0] || who != want[1] || !ok || q.Len() != 3-n {
				t.Errorf("First: %d, %d, %v, of %d", tick, who, ok, q.Len())
			}
		}
		if tick, who, ok := q.Take(); tick != want[0] || who != want[1] || !ok || q.Len() != 2-n {
			t.Errorf("Take: %d, %d, %v, of %d", tick, who, ok, q.Len())
		}
	}
	none(t, "behind the last", q)
}

// P4.1: ticks and owners are any numbers.
func TestAnyNumbers(t *testing.T) {
	q := rank.New()
	l := []int{0, math.MaxInt, -1, math.MinInt, 1, math.MinInt + 1, math.MaxInt - 1}
	for _, n := range l {
		q.Add(n, -n)
	}
	slices.Sort(l)
	for _, n := range l {
		if tick, who, ok := q.Take(); tick != n || who != -n || !ok {
			t.Errorf("Take: %d, %d, %v, want %d", tick, who, ok, n)
		}
	}
	q.Add(0, math.MinInt)
	q.Add(0, math.MaxInt)
	if q.Drop(math.MinInt) != 1 || q.Len() != 1 {
		t.Errorf("Drop: %d are left", q.Len())
	}
}

// P4.1: one's things go, all others stay, in their order.
func TestDrop(t *testing.T) {
	q := rank.New()
	for i := range 30 {
		q.Add((i*7)%10, i%3)
	}
	if n := q.Drop(3); n != 0 || q.Len() != 30 {
		t.Errorf("Drop of nobody's: %d, %d are left", n, q.Len())
	}
	if n := q.Drop(1); n != 10 || q.Len() != 20 {
		t.Errorf("Drop: %d, %d are left", n, q.Len())
	}
	if n := q.Drop(1); n != 0 || q.Len() != 20 {
		t.Errorf("Drop again: %d, %d are left", n, q.Len())
	}
	q.Add(-1, 1)
	if tick, who, _ := q.First(); tick != -1 || who != 1 || q.Len() != 21 {
		t.Errorf("behind Drop: %d, %d", tick, who)
	}
	if n := q.Drop(1); n != 1 {
		t.Errorf("Drop of the first: %d", n)
	}
	last := math.MinInt
	for range 20 {
		tick, who, ok := q.Take()
		if tick < last || who == 1 || !ok {
			t.Errorf("Take: %d, %d, %v, behind %d", tick, who, ok, last)
		}
		last = tick
	}
	none(t, "behind all", q)
}

// P4.2: a Drop moves none ahead of another one of its tick.
func TestDropKeepsOrder(t *testing.T) {
	for gone := range 12 {
		q := rank.New()
		add(q, 5, 5, 5, 2, 5, 5, 2, 5, 5, 2, 5, 5)
		q.Drop(gone)
		q.Add(5, 12)
		q.Add(2, 13)
		want := slices.DeleteFunc([]int{3, 6, 9, 13, 0, 1, 2, 4, 5, 7, 8, 10, 11, 12}, func(who int) bool { return who == gone })
		if l := takes(q); !slices.Equal(l, want) {
			t.Errorf("without %d: %v, want %v", gone, l, want)
		}
	}
}

// P4.1: Due, at its edges.
func TestDue(t *testing.T) {
	for _, x := range []struct {
		tick, left int
		want       []int
	}{
		{math.MinInt, 6, nil},
		{-3, 6, nil},
		{-2, 5, []int{4}},
		{2, 5, []int{4}},
		{3, 3, []int{4, 1, 3}},
		{4, 3, []int{4, 1, 3}},
		{5, 1, []int{4, 1, 3, 0, 2}},
		{math.MaxInt - 1, 1, []int{4, 1, 3, 0, 2}},
		{math.MaxInt, 0, []int{4, 1, 3, 0, 2, 5}},
	} {
		q := rank.New()
		add(q, 5, 3, 5, 3, -2, math.MaxInt)
		if l := q.Due(x.tick); !slices.Equal(l, x.want) || q.Len() != x.left {
			t.Errorf("Due(%d): %v, %d are left", x.tick, l, q.Len())
		}
		if l := q.Due(x.tick); len(l) != 0 || q.Len() != x.left {
			t.Errorf("Due(%d) again: %v", x.tick, l)
		}
	}
}

// P4.1, K3: what Due answers is new.
func TestDueSharesNothing(t *testing.T) {
	q := rank.New()
	add(q, 1, 2, 3, 4)
	l := q.Due(2)
	add(q, 1, 1, 1, 1)
	m := q.Due(3)
	if !slices.Equal(l, []int{0, 1}) {
		t.Errorf("a later call changes an answer: %v", l)
	}
	clear(m)
	if n := q.Due(4); !slices.Equal(n, []int{3}) {
		t.Errorf("a change of an answer shows: %v", n)
	}
}

// P4.2: of one tick, what was added first goes first, however many there are.
func TestOneTick(t *testing.T) {
	for n := range 70 {
		q := rank.New()
		var want []int
		for i := range n {
			q.Add(4, i)
			want = append(want, i)
		}
		if l := takes(q); !slices.Equal(l, want) {
			t.Errorf("%d of one tick: %v", n, l)
		}
	}
}

// thing and plain are a queue as the words say it: a list in the order in which it was added.
type thing struct{ tick, who int }
type plain []thing

// first is the place of what goes first.
func (l plain) first() int {
	best := 0
	for i, x := range l {
		if x.tick < l[best].tick {
			best = i
		}
	}
	return best
}

// take is what goes first, and it goes.
func (l *plain) take() (int, int, bool) {
	if len(*l) == 0 {
		return 0, 0, false
	}
	i := l.first()
	x := (*l)[i]
	*l = slices.Delete(*l, i, i+1)
	return x.tick, x.who, true
}

// drop lets one's things go.
func (l *plain) drop(who int) int {
	before := len(*l)
	*l = slices.DeleteFunc(*l, func(x thing) bool { return x.who == who })
	return before - len(*l)
}

// due takes up to a tick.
func (l *plain) due(tick int) []int {
	var whose []int
	for len(*l) > 0 && (*l)[l.first()].tick <= tick {
		_, who, _ := l.take()
		whose = append(whose, who)
	}
	return whose
}

// step does one call of both, the same one.
func step(t *testing.T, r *rand.Rand, q *rank.Queue, l *plain) {
	t.Helper()
	tick, who := r.Intn(12)-4, r.Intn(6)-1
	switch r.Intn(9) {
	case 0, 1, 2, 3, 4:
		q.Add(tick, who)
		*l = append(*l, thing{tick, who})
	case 5, 6:
		a, b, ok := q.Take()
		if c, d, there := l.take(); a != c || b != d || ok != there {
			t.Fatalf("Take: %d, %d, %v, want %d, %d, %v", a, b, ok, c, d, there)
		}
	case 7:
		if n, want := q.Drop(who), l.drop(who); n != want {
			t.Fatalf("Drop(%d): %d, want %d", who, n, want)
		}
	case 8:
		if got, want := q.Due(tick), l.due(tick); !slices.Equal(got, want) {
			t.Fatalf("Due(%d): %v, want %v", tick, got, want)
		}
	}
}

// P4.1, P4.2: behind any calls.
func TestBehindAnyCalls(t *testing.T) {
	for seed := range int64(300) {
		r := rand.New(rand.NewSource(seed))
		q, l := rank.New(), plain{}
		for range 200 {
			step(t, r, q, &l)
			if q.Len() != len(l) {
				t.Fatalf("Len: %d, want %d", q.Len(), len(l))
			}
			if tick, who, ok := q.First(); ok != (len(l) > 0) || ok && (thing{tick, who}) != l[l.first()] {
				t.Fatalf("First: %d, %d, %v, of %v", tick, who, ok, l)
			}
		}
		if got, want := takes(q), l.due(math.MaxInt); !slices.Equal(got, want) {
			t.Fatalf("what is left: %v, want %v", got, want)
		}
	}
}

// P4.2: ticks never fall while all is taken, of many.
func TestManyRise(t *testing.T) {
	r := rand.New(rand.NewSource(1))
	q := rank.New()
	ticks := make([]int, 20000)
	for i := range ticks {
		ticks[i] = r.Intn(50)
	}
	add(q, ticks...)
	last, before := -1, -1
	for range ticks {
		tick, who, ok := q.Take()
		if !ok || tick < last || tick == last && who < before || ticks[who] != tick {
			t.Fatalf("Take: %d, %d, %v, behind %d, %d", tick, who, ok, last, before)
		}
		last, before = tick, who
	}
	none(t, "behind all", q)
}
