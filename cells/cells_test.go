package cells_test

import (
	"math"
	"math/rand"
	"runtime"
	"strconv"
	"strings"
	"testing"

	"hindsight/api"
	"hindsight/cells"
)

// edges are numbers that no cell has, and no kind; a process may have any.
var edges = []int{math.MinInt, math.MinInt + 1, -1 << 32, -2, -1, 65536, 1 << 32, math.MaxInt - 1, math.MaxInt}

func read(cell int) cells.Access {
	return cells.Access{Kind: cells.Read, Cell: cell}
}

func write(cell int, s string) cells.Access {
	return cells.Access{Kind: cells.Write, Cell: cell, New: s}
}

func swap(cell int, from, to string) cells.Access {
	return cells.Access{Kind: cells.Swap, Cell: cell, Old: from, New: to}
}

// is looks whether an access is answered so.
func is(t *testing.T, m *cells.Memory, who int, a cells.Access, held string, done bool, want api.Errno) {
	t.Helper()
	if s, ok, e := m.Do(who, a); s != held || ok != done || e != want {
		t.Errorf("Do(%d, %+v): %q, %v, %v, want %q, %v, %v", who, a, s, ok, e, held, done, want)
	}
}

// model is what a memory is held against: what each cell holds, and all accesses that were answered OK.
type model struct {
	texts []string
	log   []access
}

// access is one, whose it was, and whether it was done.
type access struct {
	who  int
	a    cells.Access
	done bool
}

func of(n int) *model {
	return &model{texts: make([]string, n)}
}

// do is an access, by the document's words.
func (m *model) do(who int, a cells.Access) (string, bool, api.Errno) {
	if a.Cell < 0 || a.Cell >= len(m.texts) {
		return "", false, api.ErrRange
	}
	held, done := m.texts[a.Cell], true
	switch a.Kind {
	case 1:
	case 2:
		m.texts[a.Cell] = a.New
	case 3:
		if done = held == a.Old; done {
			m.texts[a.Cell] = a.New
		}
	default:
		return "", false, api.ErrKind
	}
	m.log = append(m.log, access{who, a, done})
	return held, done, api.OK
}

// holds holds all that a memory tells against the model.
func (m *model) holds(t *testing.T, x *cells.Memory) {
	t.Helper()
	if x.Len() != len(m.texts) || x.All() != len(m.log) {
		t.Fatalf("Len %d, All %d, want %d, %d", x.Len(), x.All(), len(m.texts), len(m.log))
	}
	swaps, counts := map[int]int{}, map[int]int{}
	for _, l := range m.log {
		counts[l.who]++
		if l.a.Kind == cells.Swap && l.done {
			swaps[l.a.Cell]++
		}
	}
	for cell, s := range m.texts {
		if x.Look(cell) != s || x.Swaps(cell) != swaps[cell] {
			t.Fatalf("cell %d: %q, %d, want %q, %d", cell, x.Look(cell), x.Swaps(cell), s, swaps[cell])
		}
	}
	for _, cell := range append([]int{len(m.texts)}, edges...) {
		if x.Look(cell) != "" || x.Swaps(cell) != 0 {
			t.Fatalf("cell %d, which isn't there: %q, %d", cell, x.Look(cell), x.Swaps(cell))
		}
	}
	for who := -3; who < 8; who++ {
		if x.Count(who) != counts[who] {
			t.Fatalf("Count(%d): %d, want %d", who, x.Count(who), counts[who])
		}
	}
	for _, who := range edges {
		if x.Count(who) != counts[who] {
			t.Fatalf("Count(%d): %d, want %d", who, x.Count(who), counts[who])
		}
	}
}

// P15.1: the kinds have the document's numbers.
func TestKinds(t *testing.T) {
	if cells.Read != 1 || cells.Write != 2 || cells.Swap != 3 {
		t.Errorf("%d, %d, %d", cells.Read, cells.Write, cells.Swap)
	}
}

// P15.2: the chapter's example.
func TestExample(t *testing.T) {
	m := cells.New(1)
	is(t, m, 0, swap(0, "", "a"), "", true, api.OK)
	is(t, m, 1, swap(0, "", "b"), "a", false, api.OK)
	if m.Look(0) != "a" || m.Swaps(0) != 1 {
		t.Errorf("%q, %d", m.Look(0), m.Swaps(0))
	}
}

// P15.1: so many cells, each empty; fewer than none are none, and more than the most are the most.
func TestNew(t *testing.T) {
	for _, x := range []struct{ n, want int }{
		{0, 0}, {1, 1}, {2, 2}, {320, 320}, {65535, 65535}, {65536, 65536},
		{-1, 0}, {math.MinInt, 0}, {65537, 65536}, {math.MaxInt, 65536},
	} {
		m := cells.New(x.n)
		of(x.want).holds(t, m)
		if x.want > 0 {
			is(t, m, 0, swap(x.want-1, "", "last"), "", true, api.OK)
		}
		is(t, m, 0, read(x.want), "", false, api.ErrRange)
	}
}

// P15.1: each memory has cells of its own.
func TestNewIsItsOwn(t *testing.T) {
	m, other := cells.New(2), cells.New(2)
	is(t, m, 5, swap(1, "", "a"), "", true, api.OK)
	of(2).holds(t, other)
	if m.Look(1) != "a" || m.Count(5) != 1 || m.All() != 1 || m.Swaps(1) != 1 {
		t.Errorf("%q, %d, %d, %d", m.Look(1), m.Count(5), m.All(), m.Swaps(1))
	}
}

// P15.1: Read tells, and changes nothing, whatever Old and New are.
func TestRead(t *testing.T) {
	m := cells.New(1)
	is(t, m, 0, read(0), "", true, api.OK)
	is(t, m, 0, write(0, "a"), "", true, api.OK)
	is(t, m, 0, cells.Access{Kind: cells.Read, Old: "b", New: "c"}, "a", true, api.OK)
	is(t, m, 0, cells.Access{Kind: cells.Read, Old: "a", New: "c"}, "a", true, api.OK)
	is(t, m, 0, read(0), "a", true, api.OK)
	if m.Swaps(0) != 0 || m.All() != 5 {
		t.Errorf("%d, %d", m.Swaps(0), m.All())
	}
}

// P15.1: Write is always done, whatever Old is, and is no Swap.
func TestWrite(t *testing.T) {
	m := cells.New(2)
	is(t, m, 0, write(1, "a"), "", true, api.OK)
	is(t, m, 0, cells.Access{Kind: cells.Write, Cell: 1, Old: "b", New: "c"}, "a", true, api.OK)
	is(t, m, 0, write(1, "c"), "c", true, api.OK)
	is(t, m, 0, write(1, ""), "c", true, api.OK)
	is(t, m, 0, read(1), "", true, api.OK)
	if m.Look(0) != "" || m.Swaps(1) != 0 || m.Count(0) != 5 {
		t.Errorf("%q, %d, %d", m.Look(0), m.Swaps(1), m.Count(0))
	}
}

// P15.1: Swap is done just if the cell holds Old, and is counted then, also if New is the same.
func TestSwap(t *testing.T) {
	m := cells.New(2)
	is(t, m, 0, swap(0, "a", "b"), "", false, api.OK)
	is(t, m, 0, swap(0, "", ""), "", true, api.OK)
	is(t, m, 0, swap(0, "", "\x00"), "", true, api.OK)
	is(t, m, 0, swap(0, "", "b"), "\x00", false, api.OK)
	is(t, m, 0, swap(0, "\x00\x00", "b"), "\x00", false, api.OK)
	is(t, m, 0, swap(0, "\x00", "ab"), "\x00", true, api.OK)
	is(t, m, 0, swap(0, "a", "b"), "ab", false, api.OK)
	is(t, m, 0, swap(0, "ab", "ab"), "ab", true, api.OK)
	is(t, m, 0, swap(0, "ab", ""), "ab", true, api.OK)
	if m.Look(0) != "" || m.Swaps(0) != 5 || m.Swaps(1) != 0 || m.Count(0) != 9 || m.All() != 9 {
		t.Errorf("%q, %d, %d, %d, %d", m.Look(0), m.Swaps(0), m.Swaps(1), m.Count(0), m.All())
	}
}

// P15.1, K2: a cell that isn't there, then a kind that is none; nothing has changed, and nothing counts.
func TestErrors(t *testing.T) {
	x, m := cells.New(3), of(3)
	for cell := range 3 {
		a := swap(cell, "", "held "+strconv.Itoa(cell))
		m.do(1, a)
		x.Do(1, a)
	}
	kinds := append([]int{0, 4, 5, 255, 259}, edges...)
	for _, kind := range kinds {
		for cell := range 3 {
			is(t, x, 1, cells.Access{Kind: kind, Cell: cell, Old: x.Look(cell), New: "other"}, "", false, api.ErrKind)
		}
		for _, cell := range append([]int{3, 4}, edges...) {
			is(t, x, 1, cells.Access{Kind: kind, Cell: cell}, "", false, api.ErrRange)
		}
	}
	for _, kind := range []int{cells.Read, cells.Write, cells.Swap} {
		for _, cell := range append([]int{3, 4}, edges...) {
			is(t, x, 1, cells.Access{Kind: kind, Cell: cell, New: "other"}, "", false, api.ErrRange)
		}
	}
	m.holds(t, x)
}

// P15.1: a process may have any number, and each is counted for itself.
func TestWho(t *testing.T) {
	x, m := cells.New(1), of(1)
	for i, who := range append([]int{0, 63, 64}, edges...) {
		for range i + 1 {
			m.do(who, read(0))
			is(t, x, who, read(0), "", true, api.OK)
		}
		if x.Count(who) != i+1 {
			t.Errorf("Count(%d): %d", who, x.Count(who))
		}
	}
	m.holds(t, x)
}

// P15.1: Look is no access.
func TestLook(t *testing.T) {
	m := cells.New(2)
	is(t, m, 0, write(1, "a"), "", true, api.OK)
	for range 3 {
		if m.Look(1) != "a" || m.Look(0) != "" {
			t.Errorf("%q, %q", m.Look(0), m.Look(1))
		}
	}
	if m.All() != 1 || m.Count(0) != 1 || m.Count(1) != 0 {
		t.Errorf("%d, %d", m.All(), m.Count(0))
	}
}

// P15.2: of Swaps from the same Old, with News unlike it, just the first one is done, whoever makes them, and whatever is read or goes wrong between.
func TestOne(t *testing.T) {
	r := rand.New(rand.NewSource(15))
	for range 300 {
		m := cells.New(2)
		old := texts[r.Intn(len(texts))]
		is(t, m, 0, write(1, old), "", true, api.OK)
		first := ""
		for i := range 1 + r.Intn(12) {
			to := old + strconv.Itoa(r.Intn(3))
			if i == 0 {
				first = to
				is(t, m, r.Intn(4), swap(1, old, to), old, true, api.OK)
			} else {
				is(t, m, r.Intn(4), swap(1, old, to), first, false, api.OK)
			}
			is(t, m, r.Intn(4), read(1), first, true, api.OK)
			is(t, m, r.Intn(4), swap(0, "", ""), "", true, api.OK)
			is(t, m, r.Intn(4), swap(2, old, to), "", false, api.ErrRange)
		}
		if m.Swaps(1) != 1 || m.Look(1) != first {
			t.Fatalf("%d, %q, want %q", m.Swaps(1), m.Look(1), first)
		}
	}
}

// texts are some that a cell may hold; of few, so that Swaps find what they want.
var texts = []string{"", "a", "b", "ab", "\x00", "\xff\xfe", strings.Repeat("long", 500)}

// P15.1: behind any calls.
func TestAnyCalls(t *testing.T) {
	r := rand.New(rand.NewSource(16))
	for range 200 {
		n := r.Intn(5)
		x, m := cells.New(n), of(n)
		for range 80 {
			who := r.Intn(6) - 2
			a := cells.Access{Kind: r.Intn(5), Cell: r.Intn(n+2) - 1, Old: texts[r.Intn(3)], New: texts[r.Intn(len(texts))]}
			if r.Intn(20) == 0 {
				who, a.Cell = edges[r.Intn(len(edges))], edges[r.Intn(len(edges))]
			}
			held, done, e := m.do(who, a)
			is(t, x, who, a, held, done, e)
		}
		m.holds(t, x)
	}
}

// inUse is how many bytes are in use.
func inUse() uint64 {
	runtime.GC()
	var m runtime.MemStats
	runtime.ReadMemStats(&m)
	return m.HeapAlloc
}

// P15.1: no more is kept than what cells hold now, and how many accesses there were.
func TestKeepsNoMore(t *testing.T) {
	const n, size = 20, 1 << 18
	m := cells.New(n)
	for cell := range n {
		m.Do(0, write(cell, strings.Repeat("v", size)))
	}
	before := inUse()
	for range 1 << 16 {
		m.Do(0, swap(0, "no", "other"))
	}
	for cell := range n {
		m.Do(0, write(cell, ""))
	}
	if after := inUse(); after+n*size*9/10 > before {
		t.Errorf("%d bytes, then %d", before, after)
	}
	runtime.KeepAlive(m)
}
