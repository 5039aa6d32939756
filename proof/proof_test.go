package proof_test

import (
	"errors"
	"math"
	"math/rand"
	"slices"
	"strconv"
	"strings"
	"testing"

	"hindsight/api"
	"hindsight/digest"
	"hindsight/fault"
	"hindsight/proof"
	"hindsight/tree"
	"hindsight/wire"
)

// most is the greatest number that a proof's bytes may tell.
const most = 1 << 40

// names are n leaves, all unlike.
func names(n int) []string {
	l := make([]string, n)
	for i := range l {
		l[i] = "leaf " + strconv.Itoa(i)
	}
	return l
}

// grown is a tree of n leaves.
func grown(n int) *tree.Tree {
	x := tree.New()
	x.Append(names(n)...)
	return x
}

// head is that of a tree's first n leaves.
func head(t *testing.T, x *tree.Tree, n int) proof.Head {
	t.Helper()
	r, e := x.Root(n)
	if e != api.OK {
		t.Fatalf("Root(%d): %v", n, e)
	}
	return proof.Head{N: n, Root: r}
}

// included is a tree's proof of leaf i among n.
func included(t *testing.T, x *tree.Tree, i, n int) []api.Sum {
	t.Helper()
	l, e := x.Inclusion(i, n)
	if e != api.OK {
		t.Fatalf("Inclusion(%d, %d): %v", i, n, e)
	}
	return l
}

// extended is a tree's proof of m among n.
func extended(t *testing.T, x *tree.Tree, m, n int) []api.Sum {
	t.Helper()
	l, e := x.Consistency(m, n)
	if e != api.OK {
		t.Fatalf("Consistency(%d, %d): %v", m, n, e)
	}
	return l
}

// is looks whether an error is a fault with a number behind it and nothing between.
func is(t *testing.T, name string, err error, step string, at int, want api.Errno) {
	t.Helper()
	var f *fault.Fault
	if !errors.As(err, &f) || *f != (fault.Fault{Step: step, At: at, Err: want}) {
		t.Errorf("%s: %v, want %s %d: %v", name, err, step, at, want)
	}
}

// none looks whether nothing is wrong.
func none(t *testing.T, name string, err error) {
	t.Helper()
	if err != nil {
		t.Errorf("%s: %v", name, err)
	}
}

// flipped is a sum with one bit turned.
func flipped(x api.Sum, bit int) api.Sum {
	x[bit/8] ^= 1 << (bit % 8)
	return x
}

// P10.1: Inclusion, of few leaves, in the document's words.
func TestInclusion(t *testing.T) {
	a, b, c := digest.Leaf("a"), digest.Leaf("b"), digest.Leaf("c")
	ab := digest.Node(a, b)
	one, two, three := proof.Head{N: 1, Root: a}, proof.Head{N: 2, Root: ab}, proof.Head{N: 3, Root: digest.Node(ab, c)}
	for _, x := range []struct {
		name, leaf string
		i          int
		h          proof.Head
		sums       []api.Sum
		want       api.Errno
	}{
		{"the one leaf", "a", 0, one, nil, api.OK},
		{"the one leaf, an empty list", "a", 0, one, []api.Sum{}, api.OK},
		{"another one leaf", "b", 0, one, nil, api.ErrProof},
		{"the one leaf, a sum more", "a", 0, one, []api.Sum{b}, api.ErrProof},
		{"the first of two", "a", 0, two, []api.Sum{b}, api.OK},
		{"the second of two", "b", 1, two, []api.Sum{a}, api.OK},
		{"the first of two, at the wrong place", "a", 1, two, []api.Sum{b}, api.ErrProof},
		{"the first of two, no sum", "a", 0, two, nil, api.ErrProof},
		{"the first of two, a sum twice", "a", 0, two, []api.Sum{b, b}, api.ErrProof},
		{"the first of three", "a", 0, three, []api.Sum{b, c}, api.OK},
		{"the second of three", "b", 1, three, []api.Sum{a, c}, api.OK},
		{"the third of three", "c", 2, three, []api.Sum{ab}, api.OK},
		{"the third of three, by leaves", "c", 2, three, []api.Sum{b, a}, api.ErrProof},
		{"the first of three, the other way", "a", 0, three, []api.Sum{c, b}, api.ErrProof},
		{"a node as a leaf", "\x01" + string(a[:]) + string(b[:]), 0, proof.Head{N: 2, Root: three.Root}, []api.Sum{c}, api.ErrProof},
		{"a half as a leaf", string(a[:]) + string(b[:]), 0, proof.Head{N: 2, Root: three.Root}, []api.Sum{c}, api.ErrProof},
		{"no leaf is there", "a", 0, proof.Head{}, nil, api.ErrRange},
		{"below 0", "a", -1, two, []api.Sum{b}, api.ErrRange},
		{"not below N", "a", 2, two, []api.Sum{b}, api.ErrRange},
		{"N below 0", "a", 0, proof.Head{N: -1, Root: a}, nil, api.ErrRange},
		{"both below 0", "a", -2, proof.Head{N: -1, Root: a}, nil, api.ErrRange},
		{"far below", "a", math.MinInt, three, nil, api.ErrRange},
		{"far above", "a", math.MaxInt, three, nil, api.ErrRange},
		{"N far below", "a", math.MinInt, proof.Head{N: math.MinInt}, nil, api.ErrRange},
		{"all far above", "a", math.MaxInt, proof.Head{N: math.MaxInt}, nil, api.ErrRange},
		{"N far above", "a", math.MaxInt - 1, proof.Head{N: math.MaxInt}, nil, api.ErrProof},
	} {
		err := proof.Inclusion(x.leaf, x.i, x.h, x.sums...)
		if x.want == api.OK {
			none(t, x.name, err)
		} else {
			is(t, x.name, err, "leaf", x.i, x.want)
		}
	}
}

// P10.1: Consistency, of few leaves, in the document's words.
func TestConsistency(t *testing.T) {
	a, b, c, d := digest.Leaf("a"), digest.Leaf("b"), digest.Leaf("c"), digest.Leaf("d")
	ab, cd := digest.Node(a, b), digest.Node(c, d)
	zero := proof.Head{Root: digest.Of("")}
	one, two := proof.Head{N: 1, Root: a}, proof.Head{N: 2, Root: ab}
	three, four := proof.Head{N: 3, Root: digest.Node(ab, c)}, proof.Head{N: 4, Root: digest.Node(ab, cd)}
	for _, x := range []struct {
		name     string
		old, now proof.Head
		sums     []api.Sum
		want     api.Errno
	}{
		{"none of none", zero, zero, nil, api.OK},
		{"none of none, the same root of something", proof.Head{Root: a}, proof.Head{Root: a}, nil, api.OK},
		{"none of none, unlike roots", zero, proof.Head{Root: a}, nil, api.ErrProof},
		{"none of none, a sum", zero, zero, []api.Sum{zero.Root}, api.ErrProof},
		{"the same", three, three, []api.Sum{}, api.OK},
		{"the same, a sum", three, three, []api.Sum{three.Root}, api.ErrProof},
		{"the same N, unlike roots", proof.Head{N: 3, Root: ab}, three, nil, api.ErrProof},
		{"none", zero, three, nil, api.OK},
		{"none, a sum", zero, three, []api.Sum{three.Root}, api.ErrProof},
		{"none, of another root", proof.Head{Root: a}, three, nil, api.ErrProof},
		{"none, of the zero root", proof.Head{}, three, nil, api.ErrProof},
		{"one of two", one, two, []api.Sum{b}, api.OK},
		{"one of two, with its root", one, two, []api.Sum{a, b}, api.ErrProof},
		{"one of two, no sum", one, two, nil, api.ErrProof},
		{"another one of two", proof.Head{N: 1, Root: b}, two, []api.Sum{b}, api.ErrProof},
		{"one of three", one, three, []api.Sum{b, c}, api.OK},
		{"two of three", two, three, []api.Sum{c}, api.OK},
		{"three of four", three, four, []api.Sum{c, d, ab}, api.OK},
		{"three of four, two few", three, four, []api.Sum{c, d}, api.ErrProof},
		{"three of four, too many", three, four, []api.Sum{c, d, ab, ab}, api.ErrProof},
		{"three of four, another order", three, four, []api.Sum{d, c, ab}, api.ErrProof},
		{"three of four, the elder root is wrong", proof.Head{N: 3, Root: ab}, four, []api.Sum{c, d, ab}, api.ErrProof},
		{"three of four, the root is wrong", three, proof.Head{N: 4, Root: ab}, []api.Sum{c, d, ab}, api.ErrProof},
		{"two of four", two, four, []api.Sum{cd}, api.OK},
		{"below 0", proof.Head{N: -1}, four, nil, api.ErrRange},
		{"above N", four, three, nil, api.ErrRange},
		{"above N, none", one, zero, nil, api.ErrRange},
		{"N below 0", zero, proof.Head{N: -1}, nil, api.ErrRange},
		{"both below 0, and the same", proof.Head{N: -1}, proof.Head{N: -1}, nil, api.ErrRange},
		{"far below", proof.Head{N: math.MinInt}, proof.Head{N: math.MinInt}, nil, api.ErrRange},
		{"far above", proof.Head{N: math.MaxInt}, four, nil, api.ErrRange},
		{"N far above", proof.Head{N: math.MaxInt - 1}, proof.Head{N: math.MaxInt}, nil, api.ErrProof},
		{"both far above, and the same", proof.Head{N: math.MaxInt}, proof.Head{N: math.MaxInt}, nil, api.OK},
	} {
		err := proof.Consistency(x.old, x.now, x.sums...)
		if x.want == api.OK {
			none(t, x.name, err)
		} else {
			is(t, x.name, err, "prefix", x.old.N, x.want)
		}
	}
}

// P10.1: Proves.
func TestProves(t *testing.T) {
	x := grown(7)
	old, now := head(t, x, 3), head(t, x, 7)
	leaf := proof.Proof{Kind: proof.Leaf, I: 5, N: 7, Sums: included(t, x, 5, 7)}
	prefix := proof.Proof{Kind: proof.Prefix, I: 3, N: 7, Sums: extended(t, x, 3, 7)}
	none(t, "a Leaf", leaf.Proves("leaf 5", proof.Head{}, now))
	none(t, "a Leaf, with whatever elder head", leaf.Proves("leaf 5", proof.Head{N: -9}, now))
	none(t, "a Prefix", prefix.Proves("", old, now))
	none(t, "a Prefix, with whatever leaf", prefix.Proves("leaf 3", old, now))
	is(t, "another leaf", leaf.Proves("leaf 4", old, now), "leaf", 5, api.ErrProof)
	is(t, "another elder root", prefix.Proves("", proof.Head{N: 3}, now), "prefix", 3, api.ErrProof)
	is(t, "another I", proof.Proof{Kind: proof.Leaf, I: 4, N: 7, Sums: leaf.Sums}.Proves("leaf 5", old, now), "leaf", 4, api.ErrProof)
	is(t, "I is N", proof.Proof{Kind: proof.Leaf, I: 7, N: 7, Sums: leaf.Sums}.Proves("leaf 5", old, now), "leaf", 7, api.ErrRange)
	is(t, "I is above N", proof.Proof{Kind: proof.Prefix, I: 8, N: 7}.Proves("", proof.Head{N: 8}, now), "prefix", 8, api.ErrRange)
	is(t, "I is below 0", proof.Proof{Kind: proof.Prefix, I: -8, N: 7}.Proves("", proof.Head{N: -8}, now), "prefix", -8, api.ErrRange)
	for name, p := range map[string]proof.Proof{
		"another N of a Leaf":    {Kind: proof.Leaf, I: 5, N: 6, Sums: leaf.Sums},
		"another N of a Prefix":  {Kind: proof.Prefix, I: 3, N: 8, Sums: prefix.Sums},
		"another I of a Prefix":  {Kind: proof.Prefix, I: 2, N: 7, Sums: prefix.Sums},
		"no kind":                {I: 3, N: 7, Sums: prefix.Sums},
		"a kind that is none":    {Kind: 3, I: 3, N: 7, Sums: prefix.Sums},
		"a kind below 0":         {Kind: -1, I: 3, N: 7, Sums: leaf.Sums},
		"N below 0":              {Kind: proof.Leaf, I: 5, N: -7, Sums: leaf.Sums},
		"N far above":            {Kind: proof.Prefix, I: 3, N: math.MaxInt, Sums: prefix.Sums},
		"the zero Proof":         {},
		"a Prefix of I the N is": {Kind: proof.Prefix, I: 7, N: 3, Sums: prefix.Sums},
	} {
		is(t, name, p.Proves("leaf 5", old, now), "proof", p.N, api.ErrArg)
	}
}

// P10.1: Text, also of what is no proof.
func TestText(t *testing.T) {
	a, b := digest.Of("a"), digest.Of("b")
	for _, x := range []struct {
		p    proof.Proof
		want string
	}{
		{proof.Proof{}, "\x00\x00\x00\x00"},
		{proof.Proof{Kind: proof.Leaf, I: 3, N: 300}, "\x01\x03\x82\x2c\x00"},
		{proof.Proof{Kind: proof.Prefix, N: 128, Sums: []api.Sum{a, b}}, "\x02\x00\x81\x00\x02" + string(a[:]) + string(b[:])},
		{proof.Proof{Kind: -1, I: -300, N: math.MinInt, Sums: []api.Sum{}}, "\x00\x00\x00\x00"},
		{proof.Proof{Kind: 99, I: math.MaxInt, N: 1}, "\x63\xff\xff\xff\xff\xff\xff\xff\xff\x7f\x01\x00"},
		{proof.Proof{Kind: proof.Leaf, Sums: make([]api.Sum, 65)}, "\x01\x00\x00\x41" + strings.Repeat("\x00", 65*32)},
	} {
		if got := x.p.Text(); got != x.want {
			t.Errorf("Text of %+v: %x, want %x", x.p, got, x.want)
		}
	}
}

// bytesOf is what numbers and so many sums are as bytes.
func bytesOf(kind, i, n uint64, sums int) string {
	return new(wire.Writer).Num(kind).Num(i).Num(n).Sums(make([]api.Sum, sums)...).Text()
}

// P10.1: Parse, of wrong bytes; what is wrong with them as bytes is named first.
func TestParseWrong(t *testing.T) {
	for _, x := range []struct {
		name, s string
		want    api.Errno
	}{
		{"nothing", "", api.ErrEnd},
		{"the kind alone", "\x01", api.ErrEnd},
		{"the kind 0 alone", "\x00", api.ErrEnd},
		{"no sums", "\x01\x02\x03", api.ErrEnd},
		{"a sum is wanting", "\x01\x02\x03\x01", api.ErrEnd},
		{"a byte is wanting", strings.TrimSuffix(bytesOf(1, 2, 3, 2), "\x00"), api.ErrEnd},
		{"a kind above 2", bytesOf(3, 0, 0, 0), api.ErrBig},
		{"a kind far above", bytesOf(math.MaxUint64, 0, 0, 0), api.ErrBig},
		{"a kind above 2, and few", "\x03", api.ErrBig},
		{"I above", bytesOf(1, most+1, 0, 0), api.ErrBig},
		{"N above", bytesOf(1, 0, most+1, 0), api.ErrBig},
		{"I far above", bytesOf(1, 1<<63, 0, 0), api.ErrBig},
		{"too many sums", bytesOf(1, 2, 3, 65), api.ErrBig},
		{"too many sums, and few", bytesOf(1, 2, 3, 65)[:10], api.ErrBig},
		{"the kind 0", bytesOf(0, 2, 3, 1), api.ErrForm},
		{"the kind 0, and something is left", bytesOf(0, 2, 3, 1) + "x", api.ErrForm},
		{"the kind 0, and few", bytesOf(0, 2, 3, 1)[:20], api.ErrEnd},
		{"the kind 0, and I above", bytesOf(0, most+1, 3, 1), api.ErrBig},
		{"something is left", bytesOf(1, 2, 3, 1) + "\x00", api.ErrForm},
		{"another proof is left", bytesOf(1, 2, 3, 1) + bytesOf(1, 2, 3, 1), api.ErrForm},
		{"another spelling of the kind", "\x80\x01\x02\x03\x00", api.ErrForm},
		{"another spelling of N", "\x01\x02\x80\x03\x00", api.ErrForm},
		{"another spelling of how many", "\x01\x02\x03\x80\x00", api.ErrForm},
	} {
		p, err := proof.Parse(x.s)
		is(t, x.name, err, "proof", len(x.s), x.want)
		if p.Kind != 0 || p.I != 0 || p.N != 0 || p.Sums != nil {
			t.Errorf("%s: %+v beside an error", x.name, p)
		}
	}
}

// P10.1: the words of faults.
func TestWords(t *testing.T) {
	_, err := proof.Parse("\x01\x02\x03\x00x")
	for _, x := range []struct {
		err        error
		word, path string
	}{
		{err, "proof 5: form", "proof/form"},
		{proof.Inclusion("a", 7, proof.Head{N: 7}), "leaf 7: range", "leaf/range"},
		{proof.Inclusion("a", 6, proof.Head{N: 7}), "leaf 6: proof", "leaf/proof"},
		{proof.Consistency(proof.Head{N: 8}, proof.Head{N: 7}), "prefix 8: range", "prefix/range"},
		{proof.Consistency(proof.Head{N: 2}, proof.Head{N: 7}), "prefix 2: proof", "prefix/proof"},
		{proof.Proof{N: 4}.Proves("", proof.Head{}, proof.Head{}), "proof 4: arg", "proof/arg"},
	} {
		if x.err == nil || x.err.Error() != x.word || fault.Path(x.err) != x.path {
			t.Errorf("%v, want %s", x.err, x.word)
		}
	}
}

// P10.1, K3: sums that are handed in aren't changed, and what is answered shares nothing.
func TestSharesNothing(t *testing.T) {
	x := grown(13)
	leaf, prefix := included(t, x, 6, 13), extended(t, x, 6, 13)
	leafWas, prefixWas := slices.Clone(leaf), slices.Clone(prefix)
	p := proof.Proof{Kind: proof.Leaf, I: 6, N: 13, Sums: leaf}
	none(t, "Proves", p.Proves("leaf 6", proof.Head{}, head(t, x, 13)))
	none(t, "Consistency", proof.Consistency(head(t, x, 6), head(t, x, 13), prefix...))
	s := p.Text()
	if !slices.Equal(leaf, leafWas) || !slices.Equal(prefix, prefixWas) {
		t.Error("sums that were handed in change")
	}
	clear(leaf)
	one, _ := proof.Parse(s)
	clear(one.Sums)
	other, err := proof.Parse(s)
	if err != nil || !slices.Equal(other.Sums, leafWas) {
		t.Errorf("Parse, behind a change: %v", err)
	}
}

// P10.2: what a tree answers proves, as a Proof too.
func TestTreeProves(t *testing.T) {
	const most = 70
	x := grown(most)
	for n := 1; n <= most; n++ {
		now := head(t, x, n)
		for i := range n {
			l := included(t, x, i, n)
			name := "leaf " + strconv.Itoa(i)
			none(t, name+" of "+strconv.Itoa(n), proof.Inclusion(name, i, now, l...))
			none(t, name+" as a Proof", proof.Proof{Kind: proof.Leaf, I: i, N: n, Sums: l}.Proves(name, proof.Head{}, now))
		}
		for m := range n + 1 {
			l, old := extended(t, x, m, n), head(t, x, m)
			name := strconv.Itoa(m) + " of " + strconv.Itoa(n)
			none(t, name, proof.Consistency(old, now, l...))
			none(t, name+" as a Proof", proof.Proof{Kind: proof.Prefix, I: m, N: n, Sums: l}.Proves("", old, now))
		}
	}
}

// P10.2: what a tree answers proves, behind a Forget, in clones, and under heads from before.
func TestTreeProvesBehindForget(t *testing.T) {
	const n, more = 19, 8
	for floor := range n + 1 {
		x := grown(n)
		was := head(t, x, n)
		x.Forget(floor)
		c := x.Clone(n)
		x.Append("unlike")
		c.Append(names(n + more)[n:]...)
		now := head(t, c, n+more)
		for i := floor; i < n+more; i++ {
			none(t, "Inclusion", proof.Inclusion("leaf "+strconv.Itoa(i), i, now, included(t, c, i, n+more)...))
			none(t, "Consistency", proof.Consistency(head(t, c, i), now, extended(t, c, i, n+more)...))
		}
		none(t, "the head from before", proof.Consistency(was, now, extended(t, c, n, n+more)...))
		none(t, "the head from before, of the other one", proof.Consistency(was, head(t, x, n+1), extended(t, x, n, n+1)...))
	}
}

// P10.3: one bit turned, in the leaf, a sum, or a root: it proves nothing.
func TestOneBit(t *testing.T) {
	const n = 11
	x := grown(n)
	now := head(t, x, n)
	for i := range n {
		name, l := "leaf "+strconv.Itoa(i), included(t, x, i, n)
		for bit := range 8 * len(name) {
			b := []byte(name)
			b[bit/8] ^= 1 << (bit % 8)
			is(t, "a bit of a leaf", proof.Inclusion(string(b), i, now, l...), "leaf", i, api.ErrProof)
		}
		old, m := head(t, x, i), extended(t, x, i, n)
		for bit := range 256 {
			other := proof.Head{N: n, Root: flipped(now.Root, bit)}
			is(t, "a bit of the root", proof.Inclusion(name, i, other, l...), "leaf", i, api.ErrProof)
			if i > 0 {
				is(t, "a bit of the root", proof.Consistency(old, other, m...), "prefix", i, api.ErrProof)
			}
			elder := proof.Head{N: i, Root: flipped(old.Root, bit)}
			is(t, "a bit of the elder root", proof.Consistency(elder, now, m...), "prefix", i, api.ErrProof)
			for k := range l {
				turned := slices.Clone(l)
				turned[k] = flipped(turned[k], bit)
				is(t, "a bit of a sum", proof.Inclusion(name, i, now, turned...), "leaf", i, api.ErrProof)
			}
			for k := range m {
				turned := slices.Clone(m)
				turned[k] = flipped(turned[k], bit)
				is(t, "a bit of a sum", proof.Consistency(old, now, turned...), "prefix", i, api.ErrProof)
			}
		}
	}
}

// P10.3: proofs of each place and number, held against each other place and number: none proves but its own.
func TestOthersProveNothing(t *testing.T) {
	const n = 12
	x := grown(n)
	now := head(t, x, n)
	for k := 1; k <= n; k++ {
		for i := range k {
			leaf, prefix := included(t, x, i, k), extended(t, x, i, k)
			for j := range n {
				sound(t, x, now, j, leaf)
				sound(t, x, now, j, prefix)
				for _, m := range []int{i, j, k} {
					soundElder(t, x, head(t, x, m), now, j, leaf)
					soundElder(t, x, head(t, x, m), now, j, prefix)
				}
			}
		}
	}
}

// sound looks that sums prove no leaf at place i but the one that is there, and that one by no sums but the tree's.
func sound(t *testing.T, x *tree.Tree, now proof.Head, i int, sums []api.Sum) {
	t.Helper()
	for j, name := range append(names(now.N), "", "?") {
		err := proof.Inclusion(name, i, now, sums...)
		if j == i && slices.Equal(sums, included(t, x, i, now.N)) {
			none(t, name, err)
		} else {
			is(t, name+" at "+strconv.Itoa(i), err, "leaf", i, api.ErrProof)
		}
	}
}

// soundElder looks that sums prove no root of another number as one over m leaves, and that one by no sums but the tree's.
func soundElder(t *testing.T, x *tree.Tree, root, now proof.Head, m int, sums []api.Sum) {
	t.Helper()
	err := proof.Consistency(proof.Head{N: m, Root: root.Root}, now, sums...)
	if root.N == m && slices.Equal(sums, extended(t, x, m, now.N)) {
		none(t, "Consistency", err)
	} else {
		is(t, strconv.Itoa(root.N)+" as "+strconv.Itoa(m), err, "prefix", m, api.ErrProof)
	}
}

// pool are the sums of a tree of n leaves, and some that are in none.
func pool(n int) []api.Sum {
	var l []api.Sum
	all := names(n)
	for from := range n {
		for to := from + 1; to <= n; to++ {
			x := tree.New()
			x.Append(all[from:to]...)
			r, _ := x.Root(to - from)
			l = append(l, r)
		}
	}
	return append(l, api.Sum{}, digest.Of(""))
}

// lists are all lists of at most so many of the sums.
func lists(sums []api.Sum, longest int) [][]api.Sum {
	all := [][]api.Sum{nil}
	last := all
	for range longest {
		var next [][]api.Sum
		for _, l := range last {
			for _, x := range sums {
				next = append(next, append(slices.Clone(l), x))
			}
		}
		all = append(all, next...)
		last = next
	}
	return all
}

// P10.3: whatever of a tree's own sums is handed in, in whatever order, only what is so is proved.
func TestNoOtherSumsProve(t *testing.T) {
	longest := 3
	if testing.Short() {
		longest = 2
	}
	for n := 1; n <= 4; n++ {
		x := grown(n)
		now := head(t, x, n)
		for _, l := range lists(pool(n), longest) {
			for i := range n {
				name := "leaf " + strconv.Itoa(i)
				proved := proof.Inclusion(name, i, now, l...) == nil
				if proved != slices.Equal(l, included(t, x, i, n)) {
					t.Errorf("%s of %d: %v by %x", name, n, proved, l)
				}
				old := head(t, x, i)
				proved = proof.Consistency(old, now, l...) == nil
				if proved != slices.Equal(l, extended(t, x, i, n)) {
					t.Errorf("%d of %d: %v by %x", i, n, proved, l)
				}
				if proof.Consistency(proof.Head{N: i, Root: digest.Of("?")}, now, l...) == nil {
					t.Errorf("another root over %d of %d by %x", i, n, l)
				}
			}
		}
	}
}

// P10.3: too few, too many sums, and far too many.
func TestHowMany(t *testing.T) {
	const n = 21
	x := grown(n)
	now := head(t, x, n)
	for i := range n {
		name, l, old, m := "leaf "+strconv.Itoa(i), included(t, x, i, n), head(t, x, i), extended(t, x, i, n)
		for k := range l {
			is(t, "too few", proof.Inclusion(name, i, now, slices.Delete(slices.Clone(l), k, k+1)...), "leaf", i, api.ErrProof)
			is(t, "one twice", proof.Inclusion(name, i, now, slices.Insert(slices.Clone(l), k, l[k])...), "leaf", i, api.ErrProof)
		}
		for k := range m {
			is(t, "too few", proof.Consistency(old, now, slices.Delete(slices.Clone(m), k, k+1)...), "prefix", i, api.ErrProof)
			is(t, "one twice", proof.Consistency(old, now, slices.Insert(slices.Clone(m), k, m[k])...), "prefix", i, api.ErrProof)
		}
		for _, k := range []int{1, 60, 100000} {
			far := make([]api.Sum, k)
			is(t, "many ahead", proof.Inclusion(name, i, now, append(far, l...)...), "leaf", i, api.ErrProof)
			is(t, "many behind", proof.Consistency(old, now, append(slices.Clone(m), far...)...), "prefix", i, api.ErrProof)
		}
	}
}

// P10.4: proofs there and back.
func TestThereAndBack(t *testing.T) {
	r := rand.New(rand.NewSource(10))
	numbers := []int{0, 1, 127, 128, most - 1, most}
	for _, sums := range []int{0, 1, 2, 63, proof.Most} {
		for _, i := range numbers {
			for _, n := range numbers {
				p := proof.Proof{Kind: 1 + r.Intn(2), I: i, N: n, Sums: make([]api.Sum, sums)}
				for k := range p.Sums {
					r.Read(p.Sums[k][:])
				}
				s := p.Text()
				q, err := proof.Parse(s)
				if err != nil || q.Kind != p.Kind || q.I != i || q.N != n || !slices.Equal(q.Sums, p.Sums) || q.Text() != s {
					t.Errorf("%+v: %+v, %v", p, q, err)
				}
			}
		}
	}
}

// P10.4: bytes that are a proof's are those that it has; what ends sooner is none's.
func TestOneSpelling(t *testing.T) {
	r := rand.New(rand.NewSource(11))
	x := grown(9)
	right := 0
	for range 20000 {
		i := r.Intn(9)
		b := []byte(proof.Proof{Kind: 1 + r.Intn(2), I: i, N: 9, Sums: included(t, x, i, 9)}.Text())
		for range r.Intn(4) {
			b[r.Intn(5)] ^= 1 << r.Intn(8)
		}
		b = b[:len(b)-r.Intn(2)*r.Intn(len(b))]
		p, err := proof.Parse(string(b))
		if err != nil {
			continue
		}
		right++
		if p.Text() != string(b) {
			t.Fatalf("%x: %x", b, p.Text())
		}
	}
	if right < 1000 {
		t.Errorf("only %d are proofs", right)
	}
	s := proof.Proof{Kind: proof.Leaf, I: 300, N: 9, Sums: included(t, x, 3, 9)}.Text()
	for k := range len(s) {
		if _, err := proof.Parse(s[:k]); !fault.Has(err, api.ErrEnd) {
			t.Errorf("the first %d bytes: %v", k, err)
		}
	}
}

// P1: nothing panics, whatever is handed in.
func TestAnything(t *testing.T) {
	numbers := []int{math.MinInt, -1, 0, 1, 2, 3, 5, most + 1, math.MaxInt - 1, math.MaxInt}
	for _, k := range []int{0, 1, 2, 62, 63, 64, 65} {
		sums := make([]api.Sum, k)
		for _, i := range numbers {
			for _, n := range numbers {
				if i != n {
					err := proof.Consistency(proof.Head{N: i}, proof.Head{N: n}, sums...)
					if fault.Of(err) != api.ErrRange && fault.Of(err) != api.ErrProof {
						t.Errorf("Consistency of %d and %d: %v", i, n, err)
					}
				}
				err := proof.Inclusion("x", i, proof.Head{N: n}, sums...)
				if (i < 0 || i >= n) != fault.Has(err, api.ErrRange) || err == nil {
					t.Errorf("Inclusion of %d and %d: %v", i, n, err)
				}
				for kind := -1; kind < 4; kind++ {
					p := proof.Proof{Kind: kind, I: i, N: n, Sums: sums}
					p.Proves("x", proof.Head{N: i}, proof.Head{N: n})
					proof.Parse(p.Text())
				}
			}
		}
	}
}

// P10.1: as many sums as a proof of the greatest number has, reckoned by hand.
func TestGreatest(t *testing.T) {
	h := proof.Head{N: math.MaxInt, Root: digest.Leaf("x")}
	var sums []api.Sum
	// The last leaf of 2^63 - 1: 62 halves ahead of it, each of a power of two, the least one first.
	for k := range 62 {
		sums = append(sums, api.Sum{byte(k)})
		h.Root = digest.Node(sums[k], h.Root)
	}
	none(t, "the last leaf", proof.Inclusion("x", h.N-1, h, sums...))
	is(t, "the last one but one", proof.Inclusion("x", h.N-2, h, sums...), "leaf", h.N-2, api.ErrProof)
	old := proof.Head{N: 1 << 62, Root: digest.Of("old")}
	now := proof.Head{N: math.MaxInt, Root: digest.Node(old.Root, api.Sum{1})}
	none(t, "the first half", proof.Consistency(old, now, api.Sum{1}))
}
