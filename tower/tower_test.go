package tower_test

import (
	"maps"
	"math"
	"math/bits"
	"math/rand"
	"runtime"
	"slices"
	"strings"
	"testing"

	"hindsight/tower"
)

// edges are numbers at the ends of all, and around 0.
var edges = []int{math.MinInt, math.MinInt + 1, -1 << 32, -1024, -2, -1, 0, 1, 2, 1 << 20, 1 << 62, math.MaxInt - 1, math.MaxInt}

// model is what a list is held against: what is kept of each version.
type model map[int]int

// list is one with a model's versions, put in the order in which a map tells them.
func (m model) list() *tower.List[int] {
	l := tower.New[int]()
	for at, v := range m {
		l.Put(at, v)
	}
	return l
}

// of is a model of versions, of each of which that is kept what is three times as much.
func of(versions ...int) model {
	m := model{}
	for _, at := range versions {
		m[at] = 3 * at
	}
	return m
}

// upTo is a model of the versions 1 to n.
func upTo(n int) model {
	m := model{}
	for i := range n {
		m[i+1] = -i
	}
	return m
}

// versions are all of a model, rising.
func (m model) versions() []int {
	return slices.Sorted(maps.Keys(m))
}

// heightOf is how high a tower is, by the document's words.
func heightOf(at int) int {
	if at <= 0 {
		return 10
	}
	n := 1
	for ; at%2 == 0 && n < 10; at /= 2 {
		n++
	}
	return n
}

// level is those on a level, by the document's words.
func (m model) level(h int) []int {
	if h < 0 || h > 9 {
		return nil
	}
	return slices.DeleteFunc(m.versions(), func(at int) bool { return heightOf(at) <= h })
}

// floor is the greatest version that isn't above one; false: there is none.
func (m model) floor(at int) (int, bool) {
	best, ok := 0, false
	for x := range m {
		if x <= at && (!ok || x > best) {
			best, ok = x, true
		}
	}
	return best, ok
}

// steps is how many versions a search looks at, by the document's words.
func (m model) steps(at int) int {
	n, stand, stands := 0, 0, false
	for h := 9; h >= 0; h-- {
		for _, x := range m.level(h) {
			if x <= at && (!stands || x > stand) {
				stand, stands = x, true
				n++
			}
		}
	}
	return n
}

// around are the edges, and each version of a model and its neighbours.
func (m model) around() []int {
	l := slices.Clone(edges)
	for at := range m {
		l = append(l, at-1, at, at+1) // what goes round is an edge too
	}
	return l
}

// holds holds all that a list tells against the model.
func (m model) holds(t *testing.T, l *tower.List[int]) {
	t.Helper()
	if l.Len() != len(m) {
		t.Fatalf("Len %d, want %d", l.Len(), len(m))
	}
	if got := l.Versions(); !slices.Equal(got, m.versions()) {
		t.Fatalf("Versions %v, want %v", got, m.versions())
	}
	for _, h := range []int{math.MinInt, -1, 0, 1, 2, 3, 4, 5, 6, 7, 8, 9, 10, 11, math.MaxInt} {
		if got := l.Level(h); !slices.Equal(got, m.level(h)) {
			t.Fatalf("Level(%d) %v, want %v", h, got, m.level(h))
		}
	}
	for _, at := range m.around() {
		m.finds(t, l, at)
	}
}

// finds holds what a list tells of one version against the model.
func (m model) finds(t *testing.T, l *tower.List[int], at int) {
	t.Helper()
	want, there := m.floor(at)
	if x, v, ok := l.Floor(at); x != want || v != m[want] && there || v != 0 && !there || ok != there {
		t.Fatalf("Floor(%d): %d, %d, %v, want %d, %v", at, x, v, ok, want, there)
	}
	if got := l.Steps(at); got != m.steps(at) {
		t.Fatalf("Steps(%d): %d, want %d of %v", at, got, m.steps(at), m.versions())
	}
}

// P13.1: the chapter's example.
func TestExample(t *testing.T) {
	l := tower.New[string]()
	for _, at := range []int{4, 8, 12} {
		if l.Put(at, strings.Repeat("v", at)) {
			t.Errorf("Put(%d)", at)
		}
	}
	if at, v, ok := l.Floor(11); at != 8 || v != "vvvvvvvv" || !ok {
		t.Errorf("Floor(11): %d, %q, %v", at, v, ok)
	}
}

// P13.1: nothing, and each list has versions of its own.
func TestNew(t *testing.T) {
	l, other := tower.New[int](), tower.New[int]()
	model{}.holds(t, l)
	l.Put(5, 6)
	model{5: 6}.holds(t, l)
	model{}.holds(t, other)
	if n := l.Cut(5, 6); n != 1 {
		t.Errorf("Cut: %d", n)
	}
	model{}.holds(t, l)
}

// P13.1: how high towers are.
func TestHeight(t *testing.T) {
	if tower.MaxHeight != 10 {
		t.Errorf("MaxHeight: %d", tower.MaxHeight)
	}
	for _, x := range []struct{ at, want int }{
		{1, 1}, {2, 2}, {3, 1}, {4, 3}, {6, 2}, {12, 3}, {256, 9}, {512, 10}, {768, 9}, {1024, 10}, {1536, 10},
		{0, 10}, {-1, 10}, {-2, 10}, {-3, 10}, {math.MinInt, 10}, {math.MinInt + 1, 10},
		{1 << 62, 10}, {math.MaxInt, 1}, {math.MaxInt - 1, 2},
	} {
		if got := tower.Height(x.at); got != x.want {
			t.Errorf("Height(%d): %d, want %d", x.at, got, x.want)
		}
	}
	for at := -20; at < 1<<12; at++ {
		if got := tower.Height(at); got != heightOf(at) {
			t.Errorf("Height(%d): %d, want %d", at, got, heightOf(at))
		}
	}
}

// P13.1: Put tells whether something was kept, which is kept no more.
func TestPut(t *testing.T) {
	for _, at := range edges {
		m := of(edges...)
		delete(m, at)
		l := m.list()
		for i := range 3 {
			if l.Put(at, i) != (i > 0) {
				t.Errorf("Put(%d) for the time %d", at, i)
			}
			m[at] = i
			m.holds(t, l)
		}
	}
}

// P13.1: what isn't above a version, where there is none, and where there is.
func TestFloor(t *testing.T) {
	l := of(-7, 0, 8, math.MaxInt).list()
	for _, x := range []struct {
		at, want int
		ok       bool
	}{
		{math.MinInt, 0, false}, {-8, 0, false}, {-7, -7, true}, {-1, -7, true}, {0, 0, true}, {7, 0, true},
		{8, 8, true}, {9, 8, true}, {math.MaxInt - 1, 8, true}, {math.MaxInt, math.MaxInt, true},
	} {
		if at, v, ok := l.Floor(x.at); at != x.want || v != 3*x.want || ok != x.ok {
			t.Errorf("Floor(%d): %d, %d, %v", x.at, at, v, ok)
		}
	}
	l.Put(math.MinInt, 1)
	if at, v, ok := l.Floor(math.MinInt); at != math.MinInt || v != 1 || !ok {
		t.Errorf("Floor of the least: %d, %d, %v", at, v, ok)
	}
}

// P13.1: from is cut, to isn't; what was cut may be put again.
func TestCut(t *testing.T) {
	for _, x := range []struct{ from, to, want int }{
		{3, 12, 3}, {3, 8, 2}, {4, 8, 1}, {4, 9, 2}, {0, 1, 1}, {0, 0, 0}, {3, 3, 0}, {8, 3, 0}, {17, 40, 0}, {13, 16, 0},
		{-5, 100, 6}, {math.MinInt, 0, 0}, {math.MinInt, 1, 1}, {math.MinInt, math.MaxInt, 6}, {16, math.MaxInt, 1},
		{math.MaxInt, math.MinInt, 0}, {math.MaxInt, math.MaxInt, 0}, {math.MinInt, math.MinInt, 0},
	} {
		m := of(0, 3, 5, 8, 12, 16)
		l := m.list()
		if n := l.Cut(x.from, x.to); n != x.want {
			t.Errorf("Cut(%d, %d): %d, want %d", x.from, x.to, n, x.want)
		}
		left := maps.Clone(m)
		maps.DeleteFunc(left, func(at, _ int) bool { return at >= x.from && at < x.to })
		left.holds(t, l)
		if n := l.Cut(x.from, x.to); n != 0 {
			t.Errorf("Cut(%d, %d) once more: %d", x.from, x.to, n)
		}
		for at, v := range m {
			if _, there := left[at]; l.Put(at, v) != there {
				t.Errorf("Put(%d) behind Cut(%d, %d)", at, x.from, x.to)
			}
		}
		m.holds(t, l)
	}
}

// P13.1: Cut at both ends of all numbers.
func TestCutEdges(t *testing.T) {
	m := of(edges...)
	l := m.list()
	if n := l.Cut(math.MinInt, math.MaxInt); n != len(edges)-1 {
		t.Errorf("Cut of all but the greatest: %d", n)
	}
	of(math.MaxInt).holds(t, l)
	l = m.list()
	if n := l.Cut(math.MinInt, math.MinInt+1); n != 1 {
		t.Errorf("Cut of the least: %d", n)
	}
	delete(m, math.MinInt)
	m.holds(t, l)
}

// P13.1: what a search looks at: the words of the chapter, one by one.
func TestSteps(t *testing.T) {
	l := upTo(16).list()
	for _, x := range []struct{ at, want int }{
		{math.MinInt, 0}, {0, 0}, {1, 1}, {2, 1}, {3, 2}, {7, 3}, {8, 1}, {15, 4}, {16, 1}, {17, 1}, {math.MaxInt, 1},
	} {
		if got := l.Steps(x.at); got != x.want {
			t.Errorf("Steps(%d): %d, want %d", x.at, got, x.want)
		}
	}
	l.Put(0, 0)
	l.Put(-3, 0) // both are on the highest level
	if a, b, c := l.Steps(-3), l.Steps(0), l.Steps(15); a != 1 || b != 2 || c != 6 {
		t.Errorf("Steps: %d, %d, %d", a, b, c)
	}
	l = of(1, 3, 5, 7).list() // and all of these on the lowest one
	if a, b := l.Steps(6), l.Steps(7); a != 3 || b != 4 {
		t.Errorf("Steps of odd ones: %d, %d", a, b)
	}
}

// P13.2: the same versions have the same levels, in whatever order they came, and whatever came and went.
func TestShape(t *testing.T) {
	r := rand.New(rand.NewSource(13))
	for range 30 {
		m := model{}
		for range r.Intn(60) {
			m[r.Intn(80)-20] = r.Int()
		}
		versions := m.versions()
		lists := []*tower.List[int]{tower.New[int](), tower.New[int](), tower.New[int](), tower.New[int]()}
		for i, at := range versions {
			lists[0].Put(at, m[at])
			last := versions[len(versions)-1-i]
			lists[1].Put(last, m[last])
		}
		for _, i := range r.Perm(len(versions)) {
			lists[2].Put(versions[i], m[versions[i]])
		}
		for _, at := range r.Perm(140) { // many that go again, ahead of those that stay and behind them
			lists[3].Put(at-50, 7)
		}
		for at := -50; at < 90; at++ {
			if v, there := m[at]; there {
				lists[3].Put(at, v)
			} else if n := lists[3].Cut(at, at+1); n != 1 {
				t.Fatalf("Cut of %d: %d", at, n)
			}
		}
		for _, l := range lists {
			m.holds(t, l)
		}
	}
}

// P13.3: of the versions 1 to n a search looks at few.
func TestShort(t *testing.T) {
	l := tower.New[struct{}]()
	for n := range 1024 {
		if n > 0 {
			l.Put(n, struct{}{})
		}
		for at := range n + 3 {
			if got := l.Steps(at); got > 2*bits.Len(uint(n)) {
				t.Fatalf("Steps(%d) of 1 to %d: %d", at, n, got)
			}
		}
	}
}

// P13.1: what is kept may be of any type; of none that is there its zero value is told.
func TestAnyType(t *testing.T) {
	holds(t, "a", "")
	holds(t, 7, 0)
	holds(t, 1.5, 0)
	holds(t, [2]string{"a", "b"}, [2]string{})
	holds(t, struct{ a, b int }{1, 2}, struct{ a, b int }{})
	holds(t, &model{}, nil)
	holds(t, any(3), nil)
	holds(t, struct{}{}, struct{}{})
	l := tower.New[func() int]()
	l.Put(3, func() int { return 9 })
	if _, f, ok := l.Floor(4); !ok || f() != 9 {
		t.Error("a function isn't kept")
	}
	if _, f, ok := l.Floor(2); ok || f != nil {
		t.Error("a function where there is none")
	}
}

// holds looks whether a value of a type is kept.
func holds[V comparable](t *testing.T, v, zero V) {
	t.Helper()
	l := tower.New[V]()
	l.Put(5, v)
	if at, got, ok := l.Floor(6); at != 5 || got != v || !ok {
		t.Errorf("Floor(6): %d, %v, %v", at, got, ok)
	}
	if at, got, ok := l.Floor(4); at != 0 || got != zero || ok {
		t.Errorf("Floor(4): %d, %v, %v", at, got, ok)
	}
	if n := len(l.Level(0)); n != 1 || !slices.Equal(l.Versions(), []int{5}) {
		t.Errorf("Versions: %v", l.Versions())
	}
}

// K3: what is answered is the caller's.
func TestSharesNothing(t *testing.T) {
	m := upTo(20)
	l := m.list()
	all, even := l.Versions(), l.Level(1)
	clear(all[:cap(all)])
	clear(even[:cap(even)])
	m.holds(t, l)
	all = l.Versions()
	l.Put(30, 1)
	l.Cut(1, 10)
	if !slices.Equal(all, m.versions()) {
		t.Errorf("what was answered changes: %v", all)
	}
}

// P13.1, P13.2: behind any calls.
func TestAnyCalls(t *testing.T) {
	r := rand.New(rand.NewSource(14))
	for range 40 {
		m, l := model{}, tower.New[int]()
		some := func() int {
			if r.Intn(4) == 0 {
				return edges[r.Intn(len(edges))]
			}
			return r.Intn(70) - 20
		}
		for range 60 {
			at, v := some(), r.Int()
			if r.Intn(8) > 0 {
				_, there := m[at]
				if l.Put(at, v) != there {
					t.Fatalf("Put(%d): not %v", at, there)
				}
				m[at] = v
			} else {
				to, before := some(), len(m)
				maps.DeleteFunc(m, func(x, _ int) bool { return x >= at && x < to })
				if n := l.Cut(at, to); n != before-len(m) {
					t.Fatalf("Cut(%d, %d): %d, want %d", at, to, n, before-len(m))
				}
			}
		}
		m.holds(t, l)
	}
}

// P13.1: many versions, of which all but some go.
func TestLong(t *testing.T) {
	const n = 1 << 16
	l := tower.New[int]()
	for at := 1; at <= n; at++ {
		l.Put(at, 2*at)
	}
	for at := 1; at <= n; at += 37 {
		if x, v, ok := l.Floor(at); x != at || v != 2*at || !ok {
			t.Fatalf("Floor(%d): %d, %d, %v", at, x, v, ok)
		}
	}
	if gone := l.Cut(1, n-2); gone != n-3 || !slices.Equal(l.Versions(), []int{n - 2, n - 1, n}) {
		t.Errorf("Cut: %d, %v", gone, l.Versions())
	}
}

// inUse is how many bytes are in use.
func inUse() uint64 {
	runtime.GC()
	var m runtime.MemStats
	runtime.ReadMemStats(&m)
	return m.HeapAlloc
}

// P13.1: what was cut, or put anew, isn't kept.
func TestKeepsNoMore(t *testing.T) {
	const n, size = 40, 1 << 18
	l := tower.New[string]()
	for at := range n {
		l.Put(at, strings.Repeat("v", size))
	}
	before := inUse()
	for at := range n / 2 {
		l.Put(at, "")
	}
	between := inUse()
	l.Cut(n/2, n)
	after := inUse()
	if between+n/2*size*9/10 > before || after+n/2*size*9/10 > between {
		t.Errorf("%d bytes, then %d, then %d", before, between, after)
	}
	runtime.KeepAlive(l)
}
