package tree_test

import (
	"math"
	"math/bits"
	"math/rand"
	"runtime"
	"slices"
	"strconv"
	"testing"

	"hindsight/api"
	"hindsight/digest"
	"hindsight/tree"
)

// edges are numbers that no tree has leaves for.
var edges = []int{math.MinInt, math.MinInt + 1, -1 << 32, -2, -1, math.MaxInt - 1, math.MaxInt}

// names are n leaves, all unlike.
func names(n int) []string {
	l := make([]string, n)
	for i := range l {
		l[i] = "leaf " + strconv.Itoa(i)
	}
	return l
}

// grown is a tree of leaves that come at once, and forgets those below the floor.
func grown(t *testing.T, leaves []string, floor int) *tree.Tree {
	t.Helper()
	x := tree.New()
	x.Append(leaves...)
	if e := x.Forget(floor); e != api.OK {
		t.Fatalf("Forget(%d) of %d: %v", floor, len(leaves), e)
	}
	return x
}

// greatest is the greatest power of two below n.
func greatest(n int) int {
	k := 1
	for 2*k < n {
		k *= 2
	}
	return k
}

// rootOver is the root over leaves, by the document's words.
func rootOver(l []string) api.Sum {
	switch len(l) {
	case 0:
		return digest.Of("")
	case 1:
		return digest.Leaf(l[0])
	}
	k := greatest(len(l))
	return digest.Node(rootOver(l[:k]), rootOver(l[k:]))
}

// proofOf is the proof of leaf i, by the document's words.
func proofOf(i int, l []string) []api.Sum {
	if len(l) == 1 {
		return nil
	}
	k := greatest(len(l))
	if i < k {
		return append(proofOf(i, l[:k]), rootOver(l[k:]))
	}
	return append(proofOf(i-k, l[k:]), rootOver(l[:k]))
}

// prefixOf is the proof of m, by the document's words.
func prefixOf(m int, l []string, first bool) []api.Sum {
	if m == len(l) && first {
		return nil
	}
	if m == len(l) {
		return []api.Sum{rootOver(l)}
	}
	k := greatest(len(l))
	if m <= k {
		return append(prefixOf(m, l[:k], first), rootOver(l[k:]))
	}
	return append(prefixOf(m-k, l[k:], false), rootOver(l[:k]))
}

// keptOf counts the whole subtrees of n leaves that a floor leaves, one by one.
func keptOf(n, floor int) int {
	kept := 0
	for size := 1; size <= n; size *= 2 {
		for from := 0; from+size <= n; from += size {
			parent := from / (2 * size) * (2 * size)
			if parent+2*size > floor {
				kept++
			}
		}
	}
	return kept
}

// model is what a tree is held against.
type model struct {
	leaves []string
	floor  int
}

// looks holds all that a tree tells of the first n leaves against the model.
func (m model) looks(t *testing.T, x *tree.Tree, n int) {
	t.Helper()
	inside := n >= 0 && n <= len(m.leaves)
	r, e := x.Root(n)
	switch {
	case !inside:
		same(t, "Root", n, 0, []api.Sum{r}, e, []api.Sum{{}}, api.ErrRange)
	case n < m.floor:
		same(t, "Root", n, 0, []api.Sum{r}, e, []api.Sum{{}}, api.ErrPruned)
	default:
		same(t, "Root", n, 0, []api.Sum{r}, e, []api.Sum{rootOver(m.leaves[:n])}, api.OK)
	}
	for i := -2; i < len(m.leaves)+3; i++ {
		l, e := x.Inclusion(i, n)
		switch {
		case !inside || i < 0 || i >= n:
			same(t, "Inclusion", i, n, l, e, nil, api.ErrRange)
		case i < m.floor:
			same(t, "Inclusion", i, n, l, e, nil, api.ErrPruned)
		default:
			same(t, "Inclusion", i, n, l, e, proofOf(i, m.leaves[:n]), api.OK)
		}
		l, e = x.Consistency(i, n)
		switch {
		case !inside || i < 0 || i > n:
			same(t, "Consistency", i, n, l, e, nil, api.ErrRange)
		case i < m.floor:
			same(t, "Consistency", i, n, l, e, nil, api.ErrPruned)
		case i == 0:
			same(t, "Consistency", i, n, l, e, nil, api.OK)
		default:
			same(t, "Consistency", i, n, l, e, prefixOf(i, m.leaves[:n], true), api.OK)
		}
	}
}

// same holds one answer against what it should be.
func same(t *testing.T, call string, i, n int, l []api.Sum, e api.Errno, want []api.Sum, wantErr api.Errno) {
	t.Helper()
	if e != wantErr || !slices.Equal(l, want) {
		t.Fatalf("%s(%d, %d): %x, %v, want %x, %v", call, i, n, l, e, want, wantErr)
	}
}

// holds holds all of a tree against the model.
func (m model) holds(t *testing.T, x *tree.Tree) {
	t.Helper()
	n, kept := len(m.leaves), x.Kept()
	if x.Len() != n || x.Floor() != m.floor {
		t.Fatalf("Len %d, Floor %d, want %d, %d", x.Len(), x.Floor(), n, m.floor)
	}
	if kept != keptOf(n, m.floor) || kept > 2*(n-m.floor)+2*bits.Len(uint(n)) {
		t.Fatalf("Kept of %d, floor %d: %d, want %d", n, m.floor, kept, keptOf(n, m.floor))
	}
	for i := -2; i < n+3; i++ {
		m.looks(t, x, i)
	}
}

// P9.1: Root, on the leaves and roots that others know of RFC 6962.
func TestRootKnown(t *testing.T) {
	x := tree.New()
	for i, y := range []struct{ leaf, root string }{
		{"", "6e340b9cffb37a989ca544e6bb780a2c78901d3fb33738768511a30617afa01d"},
		{"\x00", "fac54203e7cc696cf0dfcb42c92a1d9dbaf70ad9e621f4bd8d98662f00e3c125"},
		{"\x10", "aeb6bcfe274b70a14fb067a5e5578264db0fa9b51af5e0ba159158f329e06e77"},
		{"\x20\x21", "d37ee418976dd95753c1c73862b9398fa2a2cf9b4ff0fdfe8b30cd95209614b7"},
		{"\x30\x31", "4e3bbb1f7b478dcfe71fb631631519a3bca12c9aefca1612bfce4c13a86264d4"},
		{"\x40\x41\x42\x43", "76e67dadbcdf1e10e1b74ddc608abd2f98dfb16fbce75277b5232a127f2087ef"},
		{"\x50\x51\x52\x53\x54\x55\x56\x57", "ddb89be403809e325750d3d263cd78929c2942b7942a34b77e122c9594a74c8c"},
		{"\x60\x61\x62\x63\x64\x65\x66\x67\x68\x69\x6a\x6b\x6c\x6d\x6e\x6f", "5dc9da79a70659a9ad559cb701ded9a2ab9d823aad2f4960cfe370eff4604328"},
	} {
		x.Append(y.leaf)
		if r, e := x.Root(i + 1); digest.Hex(r) != y.root || e != api.OK {
			t.Errorf("Root(%d): %s, %v, want %s", i+1, digest.Hex(r), e, y.root)
		}
	}
	if r, e := x.Root(0); r != digest.Of("") || e != api.OK {
		t.Errorf("Root(0): %x, %v", r, e)
	}
}

// P9.1: the chapter's example.
func TestExample(t *testing.T) {
	x := tree.New()
	x.Append("a", "b", "c")
	ab, c := digest.Node(digest.Leaf("a"), digest.Leaf("b")), digest.Leaf("c")
	if r, e := x.Root(3); r != digest.Node(ab, c) || e != api.OK {
		t.Errorf("Root(3): %x, %v", r, e)
	}
	if l, e := x.Inclusion(2, 3); !slices.Equal(l, []api.Sum{ab}) || e != api.OK {
		t.Errorf("Inclusion(2, 3): %x, %v", l, e)
	}
}

// P9.1: a tree as it is at first.
func TestNew(t *testing.T) {
	x := tree.New()
	model{}.holds(t, x)
	x.Append()
	x.Append(nil...)
	model{}.holds(t, x)
	if e := x.Forget(0); e != api.OK {
		t.Errorf("Forget(0): %v", e)
	}
	model{}.holds(t, x.Clone(0))
}

// P9.1, P9.2, P9.3: each number of leaves, with each floor; and what comes behind that floor.
func TestEachFloor(t *testing.T) {
	for n := range 18 {
		for floor := range n + 1 {
			m := model{names(n), floor}
			x := grown(t, m.leaves, floor)
			m.holds(t, x)
			m.leaves = names(n + 3)
			x.Append(m.leaves[n:]...)
			m.holds(t, x)
		}
	}
}

// P9.1: leaves that come in whatever parts make the same tree.
func TestAppendInParts(t *testing.T) {
	m := model{leaves: names(21)}
	for _, parts := range [][]int{{1, 1, 1, 1, 17}, {20, 1}, {0, 21, 0}, {8, 8, 5}, {3, 5, 13}} {
		x := tree.New()
		from := 0
		for _, k := range parts {
			x.Append(m.leaves[from : from+k]...)
			from += k
		}
		m.holds(t, x)
	}
}

// P9.1: leaves are any bytes, and some may be the same.
func TestAnyLeaves(t *testing.T) {
	sum := digest.Leaf("a")
	m := model{leaves: []string{"", "", "\x00", "\x01", "\xff\xfe", "a", "a", string(sum[:]), "\x01" + string(sum[:]) + string(sum[:]), string(make([]byte, 1000))}}
	x := grown(t, m.leaves, 0)
	m.holds(t, x)
	m.floor = 7
	x.Forget(7)
	m.holds(t, x)
}

// P9.1: Forget: what it refuses changes nothing, and what is above the leaves is refused first.
func TestForget(t *testing.T) {
	m := model{names(11), 6}
	x := grown(t, m.leaves, 6)
	for _, y := range []struct {
		floor int
		want  api.Errno
	}{
		{-1, api.ErrArg}, {math.MinInt, api.ErrArg}, {12, api.ErrArg}, {math.MaxInt, api.ErrArg},
		{0, api.ErrPruned}, {1, api.ErrPruned}, {5, api.ErrPruned},
		{6, api.OK}, {6, api.OK},
	} {
		if e := x.Forget(y.floor); e != y.want {
			t.Errorf("Forget(%d): %v, want %v", y.floor, e, y.want)
		}
		m.holds(t, x)
	}
	for floor := 7; floor <= 11; floor++ {
		if e := x.Forget(floor); e != api.OK {
			t.Errorf("Forget(%d): %v", floor, e)
		}
		m.floor = floor
		m.holds(t, x)
	}
	if e := x.Forget(10); e != api.ErrPruned {
		t.Errorf("Forget below the floor of all: %v", e)
	}
}

// P9.1: numbers far outside, of a tree with a floor: the range is named first.
func TestOutside(t *testing.T) {
	m := model{names(9), 4}
	x := grown(t, m.leaves, 4)
	for _, n := range edges {
		m.looks(t, x, n)
		for i := -1; i < 11; i++ {
			l, e := x.Inclusion(n, i)
			same(t, "Inclusion", n, i, l, e, nil, api.ErrRange)
			l, e = x.Consistency(n, i)
			same(t, "Consistency", n, i, l, e, nil, api.ErrRange)
		}
		for _, i := range edges {
			l, e := x.Inclusion(i, n)
			same(t, "Inclusion", i, n, l, e, nil, api.ErrRange)
			l, e = x.Consistency(i, n)
			same(t, "Consistency", i, n, l, e, nil, api.ErrRange)
		}
	}
	m.holds(t, x)
}

// P9.1: a clone of each number of leaves, with each floor; it goes its own way, and so does the tree.
func TestClone(t *testing.T) {
	const n = 11
	for floor := range n + 1 {
		for k := floor; k <= n; k++ {
			m := model{names(n), floor}
			x := grown(t, m.leaves, floor)
			mc := model{slices.Clone(m.leaves[:k]), floor}
			c := x.Clone(k)
			mc.holds(t, c)
			mc.leaves = append(mc.leaves, "of", "the", "clone", "alone")
			c.Append("of", "the", "clone", "alone")
			m.holds(t, x)
			m.leaves = append(m.leaves, "of", "the", "elder")
			x.Append("of", "the", "elder")
			mc.holds(t, c)
			mc.floor = k + 1
			c.Forget(k + 1)
			m.holds(t, x)
			m.floor = n
			x.Forget(n)
			mc.holds(t, c)
			m.holds(t, x)
		}
	}
}

// P9.1: Clone, of numbers outside; of ones that the chapter leaves out it is a tree with all calls.
func TestCloneOutside(t *testing.T) {
	m := model{leaves: names(7)}
	x := grown(t, m.leaves, 0)
	for _, n := range edges {
		want := m
		if n < 0 {
			want.leaves = nil
		}
		want.holds(t, x.Clone(n))
	}
	model{leaves: m.leaves}.holds(t, x.Clone(8))
	x.Forget(4)
	for _, n := range []int{math.MinInt, -1, 0, 1, 3} {
		c := x.Clone(n)
		m := model{slices.Clone(m.leaves[:c.Len()]), c.Floor()}
		m.holds(t, c)
		c.Append("x", "y")
		m.leaves = append(m.leaves, "x", "y")
		m.holds(t, c)
	}
	model{m.leaves, 4}.holds(t, x)
}

// K3: a list that is handed in isn't changed, nor kept; one that is answered is new.
func TestSharesNothing(t *testing.T) {
	m := model{leaves: names(9)}
	l := slices.Clone(m.leaves)
	x := tree.New()
	x.Append(l...)
	if !slices.Equal(l, m.leaves) {
		t.Errorf("Append changes its list: %q", l)
	}
	l[3] = "another one"
	first, _ := x.Inclusion(3, 9)
	second, _ := x.Consistency(3, 9)
	firstWas, secondWas := slices.Clone(first), slices.Clone(second)
	c := x.Clone(9)
	x.Append(names(9)...)
	x.Forget(8)
	if !slices.Equal(first, firstWas) || !slices.Equal(second, secondWas) {
		t.Error("what was answered changes")
	}
	clear(first)
	clear(second)
	first, _ = c.Inclusion(3, 9)
	clear(first[:cap(first)])
	m.holds(t, c)
}

// pair is a tree, and what it is held against.
type pair struct {
	m model
	x *tree.Tree
}

// step does something to a pair, and answers another pair where one comes of it.
func (p *pair) step(t *testing.T, r *rand.Rand) *pair {
	t.Helper()
	n := len(p.m.leaves)
	switch r.Intn(4) {
	case 0:
		floor := p.m.floor + r.Intn(n-p.m.floor+1)
		if e := p.x.Forget(floor); e != api.OK {
			t.Fatalf("Forget(%d): %v", floor, e)
		}
		p.m.floor = floor
	case 1:
		k := p.m.floor + r.Intn(n-p.m.floor+1)
		return &pair{model{slices.Clone(p.m.leaves[:k]), p.m.floor}, p.x.Clone(k)}
	default:
		for range r.Intn(4) {
			s := strconv.Itoa(r.Int())
			p.m.leaves = append(p.m.leaves, s)
			p.x.Append(s)
		}
	}
	return nil
}

// P9.1, P9.2, P9.3: behind any calls, of trees and their clones.
func TestAnyCalls(t *testing.T) {
	r := rand.New(rand.NewSource(9))
	for range 30 {
		all := []*pair{{x: tree.New()}}
		for range 40 {
			p := all[r.Intn(len(all))]
			if len(p.m.leaves) > 25 {
				continue
			}
			if other := p.step(t, r); other != nil {
				all = append(all, other)
			}
			p.m.looks(t, p.x, len(p.m.leaves)-r.Intn(2))
		}
		for _, p := range all {
			p.m.holds(t, p.x)
		}
	}
}

// P9.2: what a tree that forgets answers is what one answers that doesn't, or ErrPruned.
func TestForgottenAnswersTheSame(t *testing.T) {
	const n = 300
	r := rand.New(rand.NewSource(10))
	all := tree.New()
	some := tree.New()
	for i, s := range names(n) {
		all.Append(s)
		some.Append(s)
		if r.Intn(5) == 0 {
			some.Forget(some.Floor() + r.Intn(i+2-some.Floor())/4)
		}
		floor := some.Floor()
		for range 20 {
			m, k := r.Intn(i+2), r.Intn(i+2)
			x, e := some.Root(k)
			want, wantErr := all.Root(k)
			if k < floor {
				want, wantErr = api.Sum{}, api.ErrPruned
			}
			same(t, "Root", k, k, []api.Sum{x}, e, []api.Sum{want}, wantErr)
			l, e := some.Inclusion(m, k)
			wants, wantErr := all.Inclusion(m, k)
			orPruned(t, "Inclusion", m, k, floor, l, e, wants, wantErr)
			l, e = some.Consistency(m, k)
			wants, wantErr = all.Consistency(m, k)
			orPruned(t, "Consistency", m, k, floor, l, e, wants, wantErr)
		}
	}
}

// orPruned holds a proof of a tree that has forgotten against that of one that hasn't.
func orPruned(t *testing.T, call string, m, n, floor int, l []api.Sum, e api.Errno, want []api.Sum, wantErr api.Errno) {
	t.Helper()
	if wantErr == api.OK && m < floor {
		want, wantErr = nil, api.ErrPruned
	}
	same(t, call, m, n, l, e, want, wantErr)
}

// P9.3: long trees: one forgets all but the last few while it grows, one forgets all when it is grown, leaf by leaf.
func TestLong(t *testing.T) {
	const n = 1 << 15
	x := tree.New()
	for i, s := range names(n) {
		x.Append(s)
		if i >= 10 {
			x.Forget(i - 10)
		}
		if most := 2*(x.Len()-x.Floor()) + 2*bits.Len(uint(x.Len())); x.Kept() > most {
			t.Fatalf("Kept of %d, floor %d: %d", x.Len(), x.Floor(), x.Kept())
		}
	}
	y := tree.New()
	y.Append(names(n)...)
	for floor := range n + 1 {
		if e := y.Forget(floor); e != api.OK {
			t.Fatalf("Forget(%d): %v", floor, e)
		}
	}
	a, _ := x.Root(n)
	b, _ := y.Root(n)
	if want := rootOver(names(n)); a != want || b != want || y.Kept() != 1 {
		t.Errorf("Root: %x, %x, want %x; %d kept", a, b, want, y.Kept())
	}
}

// inUse is how many bytes are in use.
func inUse() uint64 {
	runtime.GC()
	var m runtime.MemStats
	runtime.ReadMemStats(&m)
	return m.HeapAlloc
}

// P9.3: of what is forgotten the room goes too, also where nothing of a size is left.
func TestForgetFreesRoom(t *testing.T) {
	const n = 1 << 15
	x := tree.New()
	x.Append(names(n)...)
	all := inUse()
	x.Forget(n)
	if rest := inUse(); rest+n*32 > all {
		t.Errorf("%d bytes of %d are in use yet", rest, all)
	}
	if _, e := x.Root(n); e != api.OK {
		t.Errorf("Root: %v", e)
	}
}
