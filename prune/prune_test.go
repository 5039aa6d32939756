package prune_test

import (
	"errors"
	"math"
	"math/rand"
	"runtime"
	"slices"
	"strconv"
	"strings"
	"testing"

	"hindsight/api"
	"hindsight/digest"
	"hindsight/fault"
	"hindsight/proof"
	"hindsight/prune"
	"hindsight/tree"
)

// edges are numbers that no vault has commands for.
var edges = []int{math.MinInt, math.MinInt + 1, -1 << 32, -2, -1, 1 << 40, math.MaxInt - 1, math.MaxInt}

// names are n commands, all unlike.
func names(n int) []string {
	l := make([]string, n)
	for i := range l {
		l[i] = "command " + strconv.Itoa(i)
	}
	return l
}

// model is what a vault is held against: all commands that there were, and its floor.
type model struct {
	all   []string
	floor int
}

// filled is a vault of a model's commands, of which the elder ones went.
func (m model) filled(t *testing.T) *prune.Vault {
	t.Helper()
	v := prune.New()
	v.Add(m.all...)
	if err := v.Keep(m.floor); err != nil {
		t.Fatalf("Keep(%d) of %d: %v", m.floor, len(m.all), err)
	}
	return v
}

// is looks whether an error is a fault with a number behind it and nothing between; OK: whether there is none.
func is(t *testing.T, name string, err error, step string, at int, want api.Errno) {
	t.Helper()
	if want == api.OK {
		if err != nil {
			t.Errorf("%s: %v", name, err)
		}
		return
	}
	var f *fault.Fault
	if !errors.As(err, &f) || *f != (fault.Fault{Step: step, At: at, Err: want}) {
		t.Errorf("%s: %v, want %s %d: %v", name, err, step, at, want)
	}
}

// wrong is what stands in the way of a place, of which inside says whether it is there.
func (m model) wrong(inside bool, i int, outside api.Errno) api.Errno {
	switch {
	case !inside:
		return outside
	case i < m.floor:
		return api.ErrPruned
	}
	return api.OK
}

// holds holds all of a vault against the model.
func (m model) holds(t *testing.T, v *prune.Vault) {
	t.Helper()
	n := len(m.all)
	if v.Len() != n || v.Floor() != m.floor {
		t.Fatalf("Len %d, Floor %d, want %d, %d", v.Len(), v.Floor(), n, m.floor)
	}
	x := tree.New()
	x.Append(m.all...)
	for i := -2; i < n+3; i++ {
		m.looks(t, v, x, i)
		for k := -2; k < n+3; k++ {
			m.proves(t, v, x, i, k)
		}
	}
}

// looks holds the command at a place, and the head over so many, against the model; x is the tree over all.
func (m model) looks(t *testing.T, v *prune.Vault, x *tree.Tree, i int) {
	t.Helper()
	n := len(m.all)
	s, err := v.At(i)
	e, want := m.wrong(i >= 0 && i < n, i, api.ErrFuture), ""
	if e == api.OK {
		want = m.all[i]
	}
	is(t, "At", err, "command", i, e)
	if s != want {
		t.Errorf("At(%d): %q, want %q", i, s, want)
	}
	h, err := v.Head(i)
	e, wantHead := m.wrong(i >= 0 && i <= n, i, api.ErrRange), proof.Head{}
	if e == api.OK {
		wantHead.N = i
		wantHead.Root, _ = x.Root(i)
	}
	is(t, "Head", err, "head", i, e)
	if h != wantHead {
		t.Errorf("Head(%d): %+v, want %+v", i, h, wantHead)
	}
}

// proves holds both proofs of a place among n against the model, and looks whether they prove.
func (m model) proves(t *testing.T, v *prune.Vault, x *tree.Tree, i, n int) {
	t.Helper()
	inside := n >= 0 && n <= len(m.all) && i >= 0
	p, err := v.Leaf(i, n)
	e, want := m.wrong(inside && i < n, i, api.ErrRange), proof.Proof{}
	if e == api.OK {
		want = proof.Proof{Kind: proof.Leaf, I: i, N: n}
		want.Sums, _ = x.Inclusion(i, n)
	}
	is(t, "Leaf", err, "leaf", i, e)
	same(t, "Leaf", p, want)
	if e == api.OK {
		now, _ := v.Head(n)
		is(t, "Leaf proves", p.Proves(m.all[i], proof.Head{}, now), "", 0, api.OK)
	}
	p, err = v.Prefix(i, n)
	e, want = m.wrong(inside && i <= n, i, api.ErrRange), proof.Proof{}
	if e == api.OK {
		want = proof.Proof{Kind: proof.Prefix, I: i, N: n}
		want.Sums, _ = x.Consistency(i, n)
	}
	is(t, "Prefix", err, "prefix", i, e)
	same(t, "Prefix", p, want)
	if e == api.OK {
		old, _ := v.Head(i)
		now, _ := v.Head(n)
		is(t, "Prefix proves", p.Proves("", old, now), "", 0, api.OK)
	}
}

// same holds one proof against what it should be.
func same(t *testing.T, call string, p, want proof.Proof) {
	t.Helper()
	if p.Kind != want.Kind || p.I != want.I || p.N != want.N || !slices.Equal(p.Sums, want.Sums) {
		t.Errorf("%s: %+v, want %+v", call, p, want)
	}
}

// P12.1: the chapter's example.
func TestExample(t *testing.T) {
	v := prune.New()
	v.Add("a", "b", "c")
	is(t, "Keep", v.Keep(2), "", 0, api.OK)
	_, err := v.At(1)
	is(t, "At", err, "command", 1, api.ErrPruned)
	p, err := v.Leaf(2, 3)
	is(t, "Leaf", err, "", 0, api.OK)
	h, err := v.Head(3)
	is(t, "Head", err, "", 0, api.OK)
	is(t, "Proves", p.Proves("c", proof.Head{}, h), "", 0, api.OK)
	ab := digest.Node(digest.Leaf("a"), digest.Leaf("b"))
	if h.N != 3 || h.Root != digest.Node(ab, digest.Leaf("c")) || !slices.Equal(p.Sums, []api.Sum{ab}) {
		t.Errorf("%+v, %+v", h, p)
	}
}

// P12.1: a vault as it is at first, and one that nothing came to.
func TestNew(t *testing.T) {
	v := prune.New()
	model{}.holds(t, v)
	v.Add()
	v.Add(nil...)
	v.Add([]string{}...)
	is(t, "Keep", v.Keep(0), "", 0, api.OK)
	model{}.holds(t, v)
	if h, err := v.Head(0); h.N != 0 || h.Root != digest.Of("") || err != nil {
		t.Errorf("Head(0): %+v, %v", h, err)
	}
	c, err := v.Clone(0)
	is(t, "Clone", err, "", 0, api.OK)
	model{}.holds(t, c)
}

// P12.1, P12.2: each number of commands, with each floor; and what comes behind that floor.
func TestEachFloor(t *testing.T) {
	for n := range 14 {
		for floor := range n + 1 {
			m := model{names(n), floor}
			v := m.filled(t)
			m.holds(t, v)
			m.all = names(n + 3)
			v.Add(m.all[n:]...)
			m.holds(t, v)
		}
	}
}

// P12.1: commands are any bytes, and some may be the same.
func TestAnyCommands(t *testing.T) {
	m := model{all: []string{"", "", "\x00", "\x01", "\xff\xfe", "a", "a", strings.Repeat("long", 1000)}}
	v := m.filled(t)
	m.holds(t, v)
	for m.floor < len(m.all) {
		m.floor++
		is(t, "Keep", v.Keep(m.floor), "", 0, api.OK)
		m.holds(t, v)
	}
}

// P12.1: the words of faults, in the step and at the first number of each call.
func TestWords(t *testing.T) {
	v := model{names(9), 4}.filled(t)
	fails := func(_ any, err error) error { return err }
	for _, x := range []struct {
		err        error
		word, path string
	}{
		{fails(v.At(9)), "command 9: future", "command/future"},
		{fails(v.At(-1)), "command -1: future", "command/future"},
		{fails(v.At(3)), "command 3: pruned", "command/pruned"},
		{v.Keep(-1), "floor -1: arg", "floor/arg"},
		{v.Keep(10), "floor 10: arg", "floor/arg"},
		{v.Keep(3), "floor 3: pruned", "floor/pruned"},
		{fails(v.Head(-1)), "head -1: range", "head/range"},
		{fails(v.Head(10)), "head 10: range", "head/range"},
		{fails(v.Head(3)), "head 3: pruned", "head/pruned"},
		{fails(v.Leaf(9, 9)), "leaf 9: range", "leaf/range"},
		{fails(v.Leaf(5, 10)), "leaf 5: range", "leaf/range"},
		{fails(v.Leaf(2, 9)), "leaf 2: pruned", "leaf/pruned"},
		{fails(v.Leaf(3, 2)), "leaf 3: range", "leaf/range"},
		{fails(v.Prefix(10, 9)), "prefix 10: range", "prefix/range"},
		{fails(v.Prefix(5, 10)), "prefix 5: range", "prefix/range"},
		{fails(v.Prefix(0, 9)), "prefix 0: pruned", "prefix/pruned"},
		{fails(v.Prefix(2, 3)), "prefix 2: pruned", "prefix/pruned"},
		{fails(v.Clone(3)), "clone 3: range", "clone/range"},
		{fails(v.Clone(10)), "clone 10: range", "clone/range"},
	} {
		if x.err == nil || x.err.Error() != x.word || fault.Path(x.err) != x.path {
			t.Errorf("%v, want %s", x.err, x.word)
		}
	}
}

// P12.1: Keep: what it refuses changes nothing; the floor may be kept as it is.
func TestKeep(t *testing.T) {
	m := model{names(9), 4}
	v := m.filled(t)
	for _, x := range []struct {
		from int
		want api.Errno
	}{
		{10, api.ErrArg}, {-1, api.ErrArg}, {math.MinInt, api.ErrArg}, {math.MaxInt, api.ErrArg},
		{0, api.ErrPruned}, {3, api.ErrPruned}, {4, api.OK}, {4, api.OK},
	} {
		is(t, "Keep", v.Keep(x.from), "floor", x.from, x.want)
		m.holds(t, v)
	}
	for m.floor < 9 {
		m.floor++
		is(t, "Keep", v.Keep(m.floor), "", 0, api.OK)
		m.holds(t, v)
	}
	m.all = append(m.all, "one", "more")
	v.Add("one", "more")
	m.holds(t, v)
}

// P12.1: numbers far outside.
func TestOutside(t *testing.T) {
	m := model{names(9), 4}
	v := m.filled(t)
	x := tree.New()
	x.Append(m.all...)
	for _, i := range edges {
		m.looks(t, v, x, i)
		for _, n := range append(slices.Clone(edges), 0, 3, 4, 9, 10) {
			m.proves(t, v, x, i, n)
			m.proves(t, v, x, n, i)
		}
		c, err := v.Clone(i)
		is(t, "Clone", err, "clone", i, api.ErrRange)
		if c != nil {
			t.Errorf("Clone(%d) beside an error", i)
		}
	}
	m.holds(t, v)
}

// P12.1, P12.2: a clone of each number of commands, with each floor; it goes its own way, and so does the vault.
func TestClone(t *testing.T) {
	const n = 9
	for floor := range n + 1 {
		m := model{names(n), floor}
		v := m.filled(t)
		for k := range floor {
			c, err := v.Clone(k)
			is(t, "Clone", err, "clone", k, api.ErrRange)
			if c != nil {
				t.Errorf("Clone(%d) beside an error", k)
			}
		}
		for k := floor; k <= n; k++ {
			m := model{names(n), floor}
			v := m.filled(t)
			c, err := v.Clone(k)
			is(t, "Clone", err, "", 0, api.OK)
			other := model{slices.Clone(m.all[:k]), floor}
			other.holds(t, c)
			m.all = append(m.all, "of", "the", "elder")
			v.Add("of", "the", "elder")
			other.all = append(other.all, "of", "the", "clone", "alone")
			c.Add("of", "the", "clone", "alone")
			m.holds(t, v)
			other.holds(t, c)
			other.floor = k + 2
			is(t, "Keep", c.Keep(k+2), "", 0, api.OK)
			m.holds(t, v)
			m.floor = n
			is(t, "Keep", v.Keep(n), "", 0, api.OK)
			m.holds(t, v)
			other.holds(t, c)
		}
	}
}

// P12.2: what was answered ahead of a Keep proves what is answered behind it, also in clones, and the other way round.
func TestProvesAcrossKeep(t *testing.T) {
	const n, more = 11, 6
	all := names(n + more)
	for floor := range n + 1 {
		v := model{all: all[:n]}.filled(t)
		was, _ := v.Head(n)
		leaves := make([]proof.Proof, n)
		for i := range leaves {
			leaves[i], _ = v.Leaf(i, n)
		}
		is(t, "Keep", v.Keep(floor), "", 0, api.OK)
		again, _ := v.Head(n)
		for i, p := range leaves {
			is(t, "a proof from before", p.Proves(all[i], proof.Head{}, again), "", 0, api.OK)
		}
		for i := floor; i < n; i++ {
			p, _ := v.Leaf(i, n)
			is(t, "a head from before", p.Proves(all[i], proof.Head{}, was), "", 0, api.OK)
			is(t, "another command", p.Proves("?", proof.Head{}, was), "leaf", i, api.ErrProof)
		}
		c, _ := v.Clone(n)
		c.Add(all[n:]...)
		v.Add("unlike")
		for _, x := range []*prune.Vault{v, c} {
			now, _ := x.Head(x.Len())
			p, err := x.Prefix(n, x.Len())
			is(t, "Prefix", err, "", 0, api.OK)
			is(t, "an elder head from before", p.Proves("", was, now), "", 0, api.OK)
			is(t, "another elder head", p.Proves("", proof.Head{N: n, Root: now.Root}, now), "prefix", n, api.ErrProof)
		}
	}
}

// K3: a list that is handed in isn't changed, nor kept; what is answered shares nothing.
func TestSharesNothing(t *testing.T) {
	m := model{all: names(9)}
	l := slices.Clone(m.all)
	v := prune.New()
	v.Add(l[:5]...)
	v.Add(l[5:]...)
	if !slices.Equal(l, m.all) {
		t.Errorf("Add changes its list: %q", l)
	}
	clear(l)
	leaf, _ := v.Leaf(3, 9)
	prefix, _ := v.Prefix(3, 9)
	leafWas, prefixWas := slices.Clone(leaf.Sums), slices.Clone(prefix.Sums)
	c, _ := v.Clone(9)
	v.Add(names(9)...)
	is(t, "Keep", v.Keep(9), "", 0, api.OK)
	if !slices.Equal(leaf.Sums, leafWas) || !slices.Equal(prefix.Sums, prefixWas) {
		t.Error("what was answered changes")
	}
	clear(leaf.Sums[:cap(leaf.Sums)])
	clear(prefix.Sums[:cap(prefix.Sums)])
	m.holds(t, c)
}

// pair is a vault, and what it is held against.
type pair struct {
	m model
	v *prune.Vault
}

// step does something to a pair, and answers another pair where one comes of it.
func (p *pair) step(t *testing.T, r *rand.Rand) *pair {
	t.Helper()
	n := len(p.m.all)
	switch r.Intn(4) {
	case 0:
		p.m.floor += r.Intn(n - p.m.floor + 1)
		is(t, "Keep", p.v.Keep(p.m.floor), "", 0, api.OK)
	case 1:
		k := p.m.floor + r.Intn(n-p.m.floor+1)
		c, err := p.v.Clone(k)
		is(t, "Clone", err, "", 0, api.OK)
		return &pair{model{slices.Clone(p.m.all[:k]), p.m.floor}, c}
	default:
		for range r.Intn(4) {
			s := strconv.Itoa(r.Int())
			p.m.all = append(p.m.all, s)
			p.v.Add(s)
		}
	}
	return nil
}

// P12.1, P12.2: behind any calls, of vaults and their clones.
func TestAnyCalls(t *testing.T) {
	r := rand.New(rand.NewSource(12))
	for range 20 {
		all := []*pair{{v: prune.New()}}
		for range 40 {
			p := all[r.Intn(len(all))]
			if len(p.m.all) > 20 {
				continue
			}
			if other := p.step(t, r); other != nil {
				all = append(all, other)
			}
		}
		for _, p := range all {
			p.m.holds(t, p.v)
		}
	}
}

// P12.1: long vaults, of which each command goes on its own: one while it grows, one when it is grown.
func TestLong(t *testing.T) {
	const n = 1 << 15
	all := names(n)
	v := prune.New()
	for i, s := range all {
		v.Add(s)
		is(t, "Keep", v.Keep(max(0, i-5)), "", 0, api.OK)
		if got, err := v.At(v.Floor()); got != all[v.Floor()] || err != nil {
			t.Fatalf("At(%d): %q, %v", v.Floor(), got, err)
		}
	}
	w := model{all: all}.filled(t)
	for i, s := range all {
		is(t, "Keep", w.Keep(i), "", 0, api.OK)
		if got, err := w.At(i); got != s || err != nil {
			t.Fatalf("At(%d): %q, %v", i, got, err)
		}
	}
	a, _ := v.Head(n)
	b, _ := w.Head(n)
	if a != b || a.N != n {
		t.Errorf("Head: %+v, %+v", a, b)
	}
}

// inUse is how many bytes are in use.
func inUse() uint64 {
	runtime.GC()
	var m runtime.MemStats
	runtime.ReadMemStats(&m)
	return m.HeapAlloc
}

// P12.1: the bytes of commands that went aren't kept: of some, and of all.
func TestKeepFreesRoom(t *testing.T) {
	const n, size = 40, 1 << 18
	v := prune.New()
	for i := range n {
		v.Add(strings.Repeat(string(rune('0'+i)), size))
	}
	for _, from := range []int{5, 10, 30, n} {
		before, gone := inUse(), uint64(from-v.Floor())
		is(t, "Keep", v.Keep(from), "", 0, api.OK)
		if after := inUse(); after+gone*size*9/10 > before {
			t.Errorf("Keep(%d): %d bytes of %d are in use yet", from, after, before)
		}
	}
	if v.Len() != n || v.Floor() != n {
		t.Errorf("Len %d, Floor %d", v.Len(), v.Floor())
	}
	runtime.KeepAlive(v)
}

// P12.1: nor is the room of many that went.
func TestKeepFreesPlaces(t *testing.T) {
	const n = 1 << 16
	v := model{make([]string, n), n}.filled(t)
	with := inUse()
	runtime.KeepAlive(v)
	v = nil
	if without := inUse(); with > without+n {
		t.Errorf("a vault of which all went has %d bytes", with-without)
	}
}
