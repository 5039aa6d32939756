package sched_test

import (
	"math"
	"math/rand"
	"slices"
	"testing"

	"hindsight/api"
	"hindsight/sched"
)

// edges are numbers that no process has, and no pace.
var edges = []int{math.MinInt, math.MinInt + 1, -1 << 32, -2, -1, 1 << 32, math.MaxInt - 1, math.MaxInt}

// turn is a tick, and whose turn it is then.
type turn struct{ tick, who int }

// takes is whether the next turns are these.
func takes(t *testing.T, s *sched.Sched, l ...turn) {
	t.Helper()
	for i, want := range l {
		if who, ok := s.Next(); who != want.who || !ok || s.Tick() != want.tick {
			t.Fatalf("turn %d: %d, %v at %d, want %d at %d", i, who, ok, s.Tick(), want.who, want.tick)
		}
	}
}

// nobody is whether nobody is due, and the tick stays.
func nobody(t *testing.T, s *sched.Sched, tick int) {
	t.Helper()
	for range 2 {
		if who, ok := s.Next(); who != 0 || ok {
			t.Errorf("Next: %d, %v", who, ok)
		}
	}
	for _, n := range append([]int{0, 1, 2}, edges...) {
		if l := s.Picks(n); len(l) != 0 {
			t.Errorf("Picks(%d): %v", n, l)
		}
	}
	if at, who, ok := s.First(); at != 0 || who != 0 || ok || s.Len() != 0 {
		t.Errorf("First: %d, %d, %v, of %d", at, who, ok, s.Len())
	}
	if s.Tick() != tick {
		t.Errorf("Tick: %d, want %d", s.Tick(), tick)
	}
}

// sets sets a process's pace, which can be.
func sets(t *testing.T, s *sched.Sched, who, pace int) {
	t.Helper()
	if e := s.Set(who, pace); e != api.OK {
		t.Fatalf("Set(%d, %d): %v", who, pace, e)
	}
}

// P17.1: the chapter's example.
func TestExample(t *testing.T) {
	s := sched.New(2, 3)
	takes(t, s, turn{2, 0}, turn{3, 1}, turn{4, 0}, turn{6, 1}, turn{6, 0})
}

// P17.1: what a schedule is at first.
func TestNew(t *testing.T) {
	if sched.MaxPace != 1048576 {
		t.Errorf("MaxPace: %d", sched.MaxPace)
	}
	s := sched.New(7, 0, 5, 7)
	if s.Tick() != 0 || s.Len() != 3 {
		t.Errorf("at %d, %d are due", s.Tick(), s.Len())
	}
	if tick, who, ok := s.First(); tick != 5 || who != 2 || !ok {
		t.Errorf("First: %d, %d, %v", tick, who, ok)
	}
	takes(t, s, turn{5, 2}, turn{7, 0}, turn{7, 3}, turn{10, 2})
}

// P17.1: paces are 0 to the greatest one, whatever is asked for.
func TestPaces(t *testing.T) {
	const most = 1 << 20
	for _, x := range []struct{ pace, want int }{
		{1, 1}, {2, 2}, {most - 1, most - 1}, {most, most}, {most + 1, most}, {1 << 32, most}, {math.MaxInt - 1, most}, {math.MaxInt, most},
		{0, 0}, {-1, 0}, {-most, 0}, {-1 << 32, 0}, {math.MinInt + 1, 0}, {math.MinInt, 0},
	} {
		later := sched.New(0)
		sets(t, later, 0, x.pace)
		for _, s := range []*sched.Sched{sched.New(x.pace), later} {
			if x.want == 0 {
				nobody(t, s, 0)
				continue
			}
			takes(t, s, turn{x.want, 0}, turn{2 * x.want, 0}, turn{3 * x.want, 0})
		}
	}
}

// P17.1: nobody is due, where there are no processes, and where all have pace 0.
func TestNobody(t *testing.T) {
	nobody(t, sched.New(), 0)
	nobody(t, sched.New([]int{}...), 0)
	nobody(t, sched.New(0, 0, -1), 0)
	s := sched.New(4, 6)
	s.Picks(4)
	sets(t, s, 0, 0)
	sets(t, s, 1, -3)
	nobody(t, s, 12)
	sets(t, s, 1, 3)
	takes(t, s, turn{15, 1}, turn{18, 1})
}

// P17.1: of one tick, who was due first goes first: who took a turn later, or was set later, is behind.
func TestOneTick(t *testing.T) {
	takes(t, sched.New(1, 1, 1), turn{1, 0}, turn{1, 1}, turn{1, 2}, turn{2, 0}, turn{2, 1}, turn{2, 2}, turn{3, 0})
	takes(t, sched.New(1, 2, 4), turn{1, 0}, turn{2, 1}, turn{2, 0}, turn{3, 0}, turn{4, 2}, turn{4, 1}, turn{4, 0})
	s := sched.New(4, 4, 4)
	sets(t, s, 0, 4) // the pace that it has; but it is due anew
	takes(t, s, turn{4, 1}, turn{4, 2})
	sets(t, s, 2, 4)
	sets(t, s, 1, 4)
	takes(t, s, turn{4, 0}, turn{8, 2}, turn{8, 1}, turn{8, 0})
}

// P17.1: who is set is due at its new pace behind the tick of the last turn, and not as before; others stay.
func TestSet(t *testing.T) {
	s := sched.New(2, 3, 0)
	takes(t, s, turn{2, 0}, turn{3, 1})
	sets(t, s, 0, 10) // not at 4
	sets(t, s, 2, 2)
	if s.Len() != 3 || s.Tick() != 3 {
		t.Errorf("%d are due, at %d", s.Len(), s.Tick())
	}
	takes(t, s, turn{5, 2}, turn{6, 1}, turn{7, 2})
	sets(t, s, 1, 0)
	sets(t, s, 1, 0)
	if s.Len() != 2 {
		t.Errorf("%d are due", s.Len())
	}
	takes(t, s, turn{9, 2}, turn{11, 2}, turn{13, 0})
	sets(t, s, 0, 1)
	sets(t, s, 0, 5)
	sets(t, s, 2, 4)
	takes(t, s, turn{17, 2}, turn{18, 0}, turn{21, 2}, turn{23, 0}, turn{25, 2})
}

// P17.1, K2: who is no process can't be set, and nothing changes.
func TestSetOfNone(t *testing.T) {
	for _, n := range []int{0, 1, 3} {
		paces := []int{1, 2, 1}[:n]
		s, other := sched.New(paces...), sched.New(paces...)
		for _, who := range append([]int{n, n + 1}, edges...) {
			for _, pace := range []int{0, 1, -1, math.MaxInt} {
				if e := s.Set(who, pace); e != api.ErrRange {
					t.Errorf("Set(%d, %d) of %d processes: %v", who, pace, n, e)
				}
			}
		}
		if s.Len() != n || !slices.Equal(s.Picks(20), other.Picks(20)) || s.Tick() != other.Tick() {
			t.Errorf("%d processes: at %d, want %d", n, s.Tick(), other.Tick())
		}
	}
}

// P17.1: so many turns, one behind the other.
func TestPicks(t *testing.T) {
	s := sched.New(2, 3)
	for _, n := range append([]int{0}, edges[:5]...) {
		if l := s.Picks(n); len(l) != 0 || s.Tick() != 0 {
			t.Errorf("Picks(%d): %v, at %d", n, l, s.Tick())
		}
	}
	one := s.Picks(1)
	rest := s.Picks(4)
	if !slices.Equal(one, []int{0}) || !slices.Equal(rest, []int{1, 0, 1, 0}) || s.Tick() != 6 {
		t.Errorf("%v, %v, at %d", one, rest, s.Tick())
	}
}

// P17.1, K3: the paces that were handed in stay, and aren't kept; what Picks answers is new.
func TestSharesNothing(t *testing.T) {
	paces := []int{2, -3, 1 << 30}
	s := sched.New(paces...)
	if !slices.Equal(paces, []int{2, -3, 1 << 30}) {
		t.Errorf("New changed %v", paces)
	}
	paces[0], paces[1] = 0, 1
	sets(t, s, 1, 3)
	if paces[1] != 1 {
		t.Errorf("Set changed %v", paces)
	}
	l := s.Picks(3)
	m := s.Picks(3)
	if !slices.Equal(l, []int{0, 1, 0}) || !slices.Equal(m, []int{1, 0, 0}) {
		t.Errorf("%v, %v", l, m)
	}
	l[0], m[0] = 7, 7
	takes(t, s, turn{9, 1}, turn{10, 0})
}

// P17.1: each schedule has processes of its own.
func TestNewIsItsOwn(t *testing.T) {
	s, other := sched.New(1, 2), sched.New(1, 2)
	sets(t, s, 0, 0)
	s.Picks(5)
	takes(t, other, turn{1, 0}, turn{2, 1}, turn{2, 0})
}

// model is what a schedule is held against: of each process, its pace, the tick at which it got that or had its last turn, and how many things were done ahead of that.
type model struct {
	pace, since, number []int
	tick, done          int
}

// await: a process is due anew.
func (m *model) await(who int) {
	m.since[who], m.number[who] = m.tick, m.done
	m.done++
}

// set gives a process a pace.
func (m *model) set(who, pace int) {
	m.pace[who] = pace
	m.await(who)
}

// first is who is due first; -1: nobody is.
func (m *model) first() int {
	best := -1
	for who := range m.pace {
		if m.pace[who] == 0 {
			continue
		}
		if best < 0 || m.due(who) < m.due(best) || m.due(who) == m.due(best) && m.number[who] < m.number[best] {
			best = who
		}
	}
	return best
}

func (m *model) due(who int) int {
	return m.since[who] + m.pace[who]
}

// next is whose turn it is.
func (m *model) next() (int, bool) {
	who := m.first()
	if who < 0 {
		return 0, false
	}
	m.tick = m.due(who)
	m.await(who)
	return who, true
}

// holds holds all that a schedule tells, and changes nothing by it, against the model.
func (m *model) holds(t *testing.T, s *sched.Sched) {
	t.Helper()
	n := 0
	for _, pace := range m.pace {
		if pace > 0 {
			n++
		}
	}
	if s.Tick() != m.tick || s.Len() != n {
		t.Fatalf("at %d, %d are due, want %d, %d", s.Tick(), s.Len(), m.tick, n)
	}
	tick, who, ok := s.First()
	if want := m.first(); ok != (want >= 0) || ok && (who != want || tick != m.due(want)) {
		t.Fatalf("First: %d, %d, %v, want %d", tick, who, ok, want)
	}
}

// P17.1: behind any calls.
func TestAnyCalls(t *testing.T) {
	r := rand.New(rand.NewSource(21))
	for range 400 {
		n, most := r.Intn(6), 1+r.Intn(9)
		paces := make([]int, n)
		m := &model{pace: make([]int, n), since: make([]int, n), number: make([]int, n)}
		for who := range paces {
			paces[who] = r.Intn(most)
			m.set(who, paces[who])
		}
		s := sched.New(paces...)
		for range 60 {
			m.holds(t, s)
			switch r.Intn(4) {
			case 0:
				if who, pace := r.Intn(n+2)-1, r.Intn(most); who >= 0 && who < n {
					m.set(who, pace)
					sets(t, s, who, pace)
				} else if e := s.Set(who, pace); e != api.ErrRange {
					t.Fatalf("Set(%d, %d) of %d: %v", who, pace, n, e)
				}
			case 1:
				k := r.Intn(8)
				var want []int
				for range k {
					if who, ok := m.next(); ok {
						want = append(want, who)
					}
				}
				if l := s.Picks(k); !slices.Equal(l, want) {
					t.Fatalf("Picks(%d): %v, want %v", k, l, want)
				}
			default:
				want, there := m.next()
				if who, ok := s.Next(); who != want || ok != there {
					t.Fatalf("Next: %d, %v, want %d, %v", who, ok, want, there)
				}
			}
		}
	}
}

// P17.2: up to each tick, each process has had as many turns as its pace goes into that.
func TestShare(t *testing.T) {
	r := rand.New(rand.NewSource(22))
	for range 100 {
		paces := make([]int, r.Intn(20))
		most := 2 + r.Intn(30)
		for who := range paces {
			paces[who] = r.Intn(most) - 1
		}
		s := sched.New(paces...)
		had := make([]int, len(paces))
		for tick := range 300 {
			for at, _, ok := s.First(); ok && at <= tick; at, _, ok = s.First() {
				who, _ := s.Next()
				if s.Tick() != at {
					t.Fatalf("a turn at %d, which was due at %d", s.Tick(), at)
				}
				had[who]++
			}
			for who, pace := range paces {
				want := 0
				if pace > 0 {
					want = tick / pace
				}
				if had[who] != want {
					t.Fatalf("up to %d: %d turns of %d, whose pace is %d", tick, had[who], who, pace)
				}
			}
		}
	}
}

// P17.2: also of many processes, and of the slowest ones.
func TestShareOfMany(t *testing.T) {
	const n, last = 5000, 1 << 21
	paces := make([]int, n)
	for who := range paces {
		paces[who] = sched.MaxPace - n/2 + who // from some pace on, it is the greatest one
	}
	s := sched.New(paces...)
	had := make([]int, n)
	for at, _, _ := s.First(); at <= last; at, _, _ = s.First() {
		who, _ := s.Next()
		had[who]++
	}
	for who, pace := range paces {
		if want := last / min(pace, sched.MaxPace); had[who] != want {
			t.Fatalf("%d turns of %d, whose pace is %d", had[who], who, pace)
		}
	}
}

// P1, K7: nothing is promised behind others' calls of the queue, but that no call panics.
func TestNoPanic(t *testing.T) {
	for _, who := range append([]int{0, 1, 2, 3}, edges...) {
		for _, tick := range append([]int{0, 5}, edges...) {
			s := sched.New(2, 3, 0)
			s.Add(tick, who)
			s.Picks(9)
			s.Set(who, tick)
			s.Drop(0)
			s.Picks(9)
			s.Due(tick)
			s.Add(tick, who)
			s.Take()
			s.Set(1, 1)
			s.Picks(9)
			s.Next()
			s.Tick()
		}
	}
}
