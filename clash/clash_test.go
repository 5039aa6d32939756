package clash_test

import (
	"math"
	"math/rand"
	"slices"
	"strconv"
	"testing"

	"hindsight/api"
	"hindsight/clash"
	"hindsight/digest"
	"hindsight/proof"
	"hindsight/tree"
)

// edges are numbers that no list is as long as.
var edges = []int{math.MinInt, math.MinInt + 1, -1 << 32, -2, -1, 1 << 40, math.MaxInt - 1, math.MaxInt}

// names are n leaves, all unlike.
func names(n int) []string {
	l := make([]string, n)
	for i := range l {
		l[i] = "leaf " + strconv.Itoa(i)
	}
	return l
}

// greatest is the greatest power of two below n.
func greatest(n int) int {
	k := 1
	for k <= (n-1)/2 {
		k *= 2
	}
	return k
}

// rootOver is the root over leaves, by the document's words.
func rootOver(l []string) api.Sum {
	if len(l) == 0 {
		return digest.Of("")
	}
	return digest.Of(textOver(l))
}

// textOver is the text under the root over leaves, 1 and more.
func textOver(l []string) string {
	if len(l) == 1 {
		return "\x00" + l[0]
	}
	k := greatest(len(l))
	return node(rootOver(l[:k]), rootOver(l[k:]))
}

// node is the text under the Node of two sums.
func node(a, b api.Sum) string {
	return "\x01" + string(a[:]) + string(b[:])
}

// grown is a tree of leaves.
func grown(l []string) *tree.Tree {
	x := tree.New()
	x.Append(l...)
	return x
}

// included is the proof of leaf i among some.
func included(i int, l []string) []api.Sum {
	sums, _ := grown(l).Inclusion(i, len(l))
	return sums
}

// extended is the proof of the first m among some leaves.
func extended(m int, l []string) []api.Sum {
	sums, _ := grown(l).Consistency(m, len(l))
	return sums
}

// head is that of leaves.
func head(l []string) proof.Head {
	return proof.Head{N: len(l), Root: rootOver(l)}
}

// wayOf is the texts under the sums that a proof of as many sums as it takes reckons, by the document's words.
func wayOf(leaf string, i, n int, sums []api.Sum) []string {
	if n == 1 {
		return []string{"\x00" + leaf}
	}
	k, last := greatest(n), len(sums)-1
	if i < k {
		inner := wayOf(leaf, i, k, sums[:last])
		return append([]string{node(digest.Of(inner[0]), sums[last])}, inner...)
	}
	inner := wayOf(leaf, i-k, n-k, sums[:last])
	return append([]string{node(sums[last], digest.Of(inner[0]))}, inner...)
}

// rightWay is the texts under the roots on the way to leaf i.
func rightWay(i int, l []string) []string {
	text := textOver(l)
	if len(l) == 1 {
		return []string{text}
	}
	k := greatest(len(l))
	if i < k {
		return append([]string{text}, rightWay(i, l[:k])...)
	}
	return append([]string{text}, rightWay(i-k, l[k:])...)
}

// sidesOf is the Sides of a proof of as many sums as it takes, by the document's words, and the sum that it tells of all these leaves.
func sidesOf(m int, claim api.Sum, l []string, first bool, sums []api.Sum) ([]clash.Pair, api.Sum) {
	if m == len(l) && first {
		return nil, claim
	}
	if m == len(l) {
		return nil, sums[0]
	}
	k, last := greatest(len(l)), len(sums)-1
	var told string
	var inner []clash.Pair
	var x api.Sum
	if m <= k {
		inner, x = sidesOf(m, claim, l[:k], first, sums[:last])
		told = node(x, sums[last])
	} else {
		inner, x = sidesOf(m-k, claim, l[k:], false, sums[:last])
		told = node(sums[last], x)
	}
	return append([]clash.Pair{{A: textOver(l), B: told}}, inner...), digest.Of(told)
}

// flipped is sums, one bit of the k-th of which is turned.
func flipped(sums []api.Sum, k, bit int) []api.Sum {
	l := slices.Clone(sums)
	l[k][bit/8] ^= 1 << (bit % 8)
	return l
}

// noPair looks that there is nothing, and nothing beside.
func noPair(t *testing.T, name string, p clash.Pair, ok bool) {
	t.Helper()
	if ok || p != (clash.Pair{}) {
		t.Errorf("%s: %q, %v", name, p, ok)
	}
}

// P11.1: Is, of texts that are the same, and of those whose sums aren't.
func TestIs(t *testing.T) {
	for _, p := range []clash.Pair{
		{}, {"a", "a"}, {"a", ""}, {"", "a"}, {"a", "b"}, {"\x00", ""}, {"ab", "ba"}, {"a", "a\x00"},
		{"\x00a", "\x01a"}, {string(make([]byte, 65)), string(make([]byte, 65))}, {string(make([]byte, 64)), string(make([]byte, 65))},
	} {
		if p.Is() {
			t.Errorf("%q Is", p)
		}
	}
}

// P11.1: Way, of few leaves, in the document's words.
func TestWayByHand(t *testing.T) {
	a, b, c := digest.Leaf("a"), digest.Leaf("b"), digest.Leaf("c")
	ab, ba := digest.Node(a, b), digest.Node(b, a)
	for _, x := range []struct {
		name, leaf string
		i, n       int
		sums       []api.Sum
		want       []string
	}{
		{"the one leaf", "a", 0, 1, nil, []string{"\x00a"}},
		{"the one leaf, an empty list", "", 0, 1, []api.Sum{}, []string{"\x00"}},
		{"the first of two", "a", 0, 2, []api.Sum{b}, []string{node(a, b), "\x00a"}},
		{"the second of two", "a", 1, 2, []api.Sum{b}, []string{node(b, a), "\x00a"}},
		{"the first of three", "a", 0, 3, []api.Sum{b, c}, []string{node(ab, c), node(a, b), "\x00a"}},
		{"the second of three", "a", 1, 3, []api.Sum{b, c}, []string{node(ba, c), node(b, a), "\x00a"}},
		{"the third of three", "c", 2, 3, []api.Sum{ab}, []string{node(ab, c), "\x00c"}},
		{"what proves nothing", "?", 2, 3, []api.Sum{{1}}, []string{node(api.Sum{1}, digest.Leaf("?")), "\x00?"}},
	} {
		w, ok := clash.Way(x.leaf, x.i, x.n, x.sums...)
		if !ok || !slices.Equal(w, x.want) {
			t.Errorf("%s: %q, %v, want %q", x.name, w, ok, x.want)
		}
	}
}

// P11.1: Way of what a tree answers: the texts under the roots that are right.
func TestWayOfRightProofs(t *testing.T) {
	for n := 1; n <= 40; n++ {
		l := names(n)
		for i := range n {
			w, ok := clash.Way(l[i], i, n, included(i, l)...)
			if !ok || !slices.Equal(w, rightWay(i, l)) {
				t.Errorf("%d of %d: %q, %v", i, n, w, ok)
			}
		}
	}
}

// P11.1: Way of any sums, whether they prove or not; of too few, or too many, none.
func TestWayOfAnySums(t *testing.T) {
	r := rand.New(rand.NewSource(1))
	for n := 1; n <= 40; n++ {
		for i := range n {
			sums := make([]api.Sum, len(included(i, names(n))))
			for k := range sums {
				r.Read(sums[k][:])
			}
			leaf := strconv.Itoa(r.Int())
			w, ok := clash.Way(leaf, i, n, sums...)
			if !ok || !slices.Equal(w, wayOf(leaf, i, n, sums)) {
				t.Errorf("%d of %d: %q, %v", i, n, w, ok)
			}
			for k := range sums {
				noWay(t, leaf, i, n, sums[:k])
			}
			for _, more := range []int{1, 2, 64, 10000} {
				noWay(t, leaf, i, n, append(slices.Clone(sums), make([]api.Sum, more)...))
			}
		}
	}
}

// noWay looks that there is none.
func noWay(t *testing.T, leaf string, i, n int, sums []api.Sum) {
	t.Helper()
	if w, ok := clash.Way(leaf, i, n, sums...); ok || w != nil {
		t.Errorf("Way of %d among %d by %d sums: %q, %v", i, n, len(sums), w, ok)
	}
}

// P11.1: Way, of places that aren't there.
func TestWayOutside(t *testing.T) {
	for _, sums := range [][]api.Sum{nil, make([]api.Sum, 1), make([]api.Sum, 2), make([]api.Sum, 63)} {
		for _, x := range [][2]int{{-1, 0}, {0, 0}, {1, 0}, {-1, 1}, {1, 1}, {-1, 3}, {3, 3}, {4, 3}, {0, -1}, {-1, -1}, {-2, -1}} {
			noWay(t, "a", x[0], x[1], sums)
		}
		for _, i := range edges {
			noWay(t, "a", i, 0, sums)
			noWay(t, "a", i, 3, sums)
			noWay(t, "a", i, i, sums)
			noWay(t, "a", i, -5, sums)
		}
	}
}

// P11.1: Way, of the greatest numbers.
func TestWayOfGreatest(t *testing.T) {
	const n = math.MaxInt
	sums := make([]api.Sum, 63)
	for k := range sums {
		sums[k][0] = byte(k + 1)
	}
	for _, x := range []struct{ i, sums int }{{0, 63}, {1, 63}, {1 << 61, 63}, {1<<62 - 1, 63}, {1 << 62, 63}, {n - 1, 62}, {n - 2, 63}} {
		w, ok := clash.Way("a", x.i, n, sums[:x.sums]...)
		if !ok || !slices.Equal(w, wayOf("a", x.i, n, sums[:x.sums])) {
			t.Errorf("%d: %d texts, %v", x.i, len(w), ok)
		}
		noWay(t, "a", x.i, n, sums[:x.sums-1])
		noWay(t, "a", x.i, n, make([]api.Sum, x.sums+1))
	}
}

// P11.3: Leaves answers false, as a proof isn't right, or both leaves are what they should be.
func TestLeavesAnswersFalse(t *testing.T) {
	for n := 1; n <= 12; n++ {
		l := names(n)
		h := head(l)
		for i := range n {
			p := included(i, l)
			x, ok := clash.Leaves(i, h, l[i], p, l[i], p)
			noPair(t, "the same leaf", x, ok)
			x, ok = clash.Leaves(i, h, l[i], p, "?", p)
			noPair(t, "another leaf", x, ok)
			x, ok = clash.Leaves(i, h, "?", p, l[i], p)
			noPair(t, "another leaf ahead", x, ok)
			x, ok = clash.Leaves(i, h, "?", p, "!", p)
			noPair(t, "two others", x, ok)
			x, ok = clash.Leaves(i, proof.Head{N: n}, l[i], p, "?", p)
			noPair(t, "another root", x, ok)
			for k := range p {
				q := flipped(p, k, 8*k+k%8)
				x, ok = clash.Leaves(i, h, l[i], p, l[i], q)
				noPair(t, "a bit turned", x, ok)
				x, ok = clash.Leaves(i, h, l[i], p, "?", q)
				noPair(t, "a bit turned, another leaf", x, ok)
				x, ok = clash.Leaves(i, h, l[i], p, "?", p[:k])
				noPair(t, "too few", x, ok)
			}
			x, ok = clash.Leaves(i, h, l[i], p, "?", append(slices.Clone(p), api.Sum{}))
			noPair(t, "too many", x, ok)
		}
		for _, i := range append(edges, n, n+1) {
			x, ok := clash.Leaves(i, h, "a", nil, "b", nil)
			noPair(t, "no such place", x, ok)
			x, ok = clash.Leaves(0, proof.Head{N: i, Root: h.Root}, "a", nil, "b", make([]api.Sum, 63))
			noPair(t, "no such head", x, ok)
		}
	}
}

// P11.1: Sides, of few leaves, in the document's words.
func TestSidesByHand(t *testing.T) {
	a, b, c, d := digest.Leaf("a"), digest.Leaf("b"), digest.Leaf("c"), digest.Leaf("d")
	ab, cd := digest.Node(a, b), digest.Node(c, d)
	x, y, z := api.Sum{1}, api.Sum{2}, api.Sum{3}
	yx := digest.Node(y, x)
	for _, s := range []struct {
		name   string
		m      int
		claim  api.Sum
		leaves []string
		sums   []api.Sum
		want   []clash.Pair
	}{
		{"all of one", 1, a, []string{"a"}, nil, nil},
		{"all, another claim", 4, x, []string{"a", "b", "c", "d"}, []api.Sum{}, nil},
		{"one of two", 1, a, []string{"a", "b"}, []api.Sum{b}, []clash.Pair{{node(a, b), node(a, b)}}},
		{"one of two, another claim", 1, x, []string{"a", "b"}, []api.Sum{b}, []clash.Pair{{node(a, b), node(x, b)}}},
		{"one of two, another sum", 1, a, []string{"a", "b"}, []api.Sum{x}, []clash.Pair{{node(a, b), node(a, x)}}},
		{"one of three", 1, y, []string{"a", "b", "c"}, []api.Sum{x, z}, []clash.Pair{{node(ab, c), node(yx, z)}, {node(a, b), node(y, x)}}},
		{"two of three", 2, x, []string{"a", "b", "c"}, []api.Sum{y}, []clash.Pair{{node(ab, c), node(x, y)}}},
		{"two of four", 2, ab, []string{"a", "b", "c", "d"}, []api.Sum{cd}, []clash.Pair{{node(ab, cd), node(ab, cd)}}},
		{"three of four, where claim isn't what comes first", 3, z, []string{"a", "b", "c", "d"}, []api.Sum{c, d, ab}, []clash.Pair{{node(ab, cd), node(ab, cd)}, {node(c, d), node(c, d)}}},
		{"three of four, others", 3, ab, []string{"a", "b", "c", "d"}, []api.Sum{y, x, z}, []clash.Pair{{node(ab, cd), node(z, yx)}, {node(c, d), node(y, x)}}},
	} {
		got, ok := clash.Sides(s.m, s.claim, s.leaves, s.sums...)
		if !ok || !slices.Equal(got, s.want) {
			t.Errorf("%s: %q, %v, want %q", s.name, got, ok, s.want)
		}
	}
}

// P11.1: Sides of what a tree answers, and of any sums, as many; of too few, or too many, none.
func TestSides(t *testing.T) {
	r := rand.New(rand.NewSource(2))
	for n := 1; n <= 26; n++ {
		l := names(n)
		for m := 1; m <= n; m++ {
			sums := extended(m, l)
			right, ok := clash.Sides(m, rootOver(l[:m]), l, sums...)
			want, told := sidesOf(m, rootOver(l[:m]), l, true, sums)
			if !ok || !slices.Equal(right, want) || told != rootOver(l) {
				t.Errorf("%d of %d: %q, %v", m, n, right, ok)
			}
			for _, p := range right {
				if p.A != p.B {
					t.Errorf("%d of %d: a right proof tells otherwise", m, n)
				}
			}
			var claim api.Sum
			r.Read(claim[:])
			others := slices.Clone(sums)
			for k := range others {
				if r.Intn(2) == 0 {
					r.Read(others[k][:])
				}
			}
			want, _ = sidesOf(m, claim, l, true, others)
			if got, ok := clash.Sides(m, claim, l, others...); !ok || !slices.Equal(got, want) {
				t.Errorf("%d of %d, any sums: %q, %v", m, n, got, ok)
			}
			for k := range sums {
				noSides(t, m, claim, l, sums[:k])
			}
			for _, more := range []int{1, 2, 64, 10000} {
				noSides(t, m, claim, l, append(slices.Clone(sums), make([]api.Sum, more)...))
			}
		}
	}
}

// noSides looks that there are none.
func noSides(t *testing.T, m int, claim api.Sum, l []string, sums []api.Sum) {
	t.Helper()
	if s, ok := clash.Sides(m, claim, l, sums...); ok || s != nil {
		t.Errorf("Sides of %d among %d by %d sums: %q, %v", m, len(l), len(sums), s, ok)
	}
}

// P11.1: Sides, of numbers that no elder head with sides has.
func TestSidesOutside(t *testing.T) {
	for n := range 9 {
		l := names(n)
		for k := range 6 {
			for _, m := range append(edges, 0, n+1, n+2) {
				noSides(t, m, rootOver(nil), l, make([]api.Sum, k))
			}
		}
	}
	noSides(t, 1, digest.Of(""), nil, nil)
	noSides(t, 0, digest.Of(""), []string{}, nil)
}

// P11.3: Prefix answers false, as a proof isn't right, or the claim is what it should be.
func TestPrefixAnswersFalse(t *testing.T) {
	for n := range 13 {
		l := names(n)
		for m := range n + 1 {
			sums, claim := extended(m, l), rootOver(l[:m])
			x, ok := clash.Prefix(m, claim, l, sums)
			noPair(t, "right", x, ok)
			for _, other := range []api.Sum{{}, rootOver(l), digest.Of(""), digest.Of("?")} {
				x, ok = clash.Prefix(m, other, l, sums)
				noPair(t, "another claim", x, ok)
			}
			for k := range sums {
				x, ok = clash.Prefix(m, claim, l, flipped(sums, k, 8*k+k%8))
				noPair(t, "a bit turned", x, ok)
				x, ok = clash.Prefix(m, digest.Of("?"), l, flipped(sums, k, 255))
				noPair(t, "a bit turned, another claim", x, ok)
				x, ok = clash.Prefix(m, claim, l, sums[:k])
				noPair(t, "too few", x, ok)
			}
			x, ok = clash.Prefix(m, claim, l, append(slices.Clone(sums), api.Sum{}))
			noPair(t, "too many", x, ok)
		}
		for _, m := range append(edges, n+1, n+2) {
			for _, sums := range [][]api.Sum{nil, make([]api.Sum, 1), make([]api.Sum, 63)} {
				x, ok := clash.Prefix(m, rootOver(l), l, sums)
				noPair(t, "no such number", x, ok)
			}
		}
	}
}

// P11.1, K3: what is handed in isn't changed, and what is answered shares nothing.
func TestSharesNothing(t *testing.T) {
	l := names(7)
	p, q := included(4, l), extended(3, l)
	// Room behind what is handed in is the caller's too.
	room := make([]api.Sum, 0, 20)
	sums := append(append(room, p...), q...)
	many := append(slices.Clone(l), "x", "y")
	first, _ := clash.Way(l[4], 4, 7, sums[:len(p)]...)
	firstWas := slices.Clone(first)
	clash.Leaves(4, head(l), l[4], sums[:len(p)], "?", sums[:len(p)])
	sides, _ := clash.Sides(3, rootOver(l[:3]), many[:7], sums[len(p):]...)
	sidesWas := slices.Clone(sides)
	clash.Prefix(3, rootOver(l[:3]), many[:7], sums[len(p):])
	if !slices.Equal(sums, append(slices.Clone(p), q...)) || !slices.Equal(many, append(slices.Clone(l), "x", "y")) {
		t.Error("what was handed in changes")
	}
	clear(sums)
	clear(many)
	if !slices.Equal(first, firstWas) || !slices.Equal(sides, sidesWas) {
		t.Error("what was answered changes")
	}
	clear(first)
	clear(sides)
	again, _ := clash.Way(l[4], 4, 7, p...)
	sides, _ = clash.Sides(3, rootOver(l[:3]), l, q...)
	if !slices.Equal(again, firstWas) || !slices.Equal(sides, sidesWas) {
		t.Error("the same call is answered otherwise")
	}
}

// P11.1: leaves are any bytes, the empty ones too, and some may be the same, or what is under a Node.
func TestAnyLeaves(t *testing.T) {
	sum := digest.Leaf("a")
	l := []string{"", "", "\x00", "\x01", "\xff\xfe", "a", "a", node(sum, sum), string(make([]byte, 1000))}
	for i, leaf := range l {
		w, ok := clash.Way(leaf, i, len(l), included(i, l)...)
		if !ok || !slices.Equal(w, rightWay(i, l)) {
			t.Errorf("Way of %d: %q, %v", i, w, ok)
		}
		s, ok := clash.Sides(i+1, rootOver(l[:i+1]), l, extended(i+1, l)...)
		want, _ := sidesOf(i+1, rootOver(l[:i+1]), l, true, extended(i+1, l))
		if !ok || !slices.Equal(s, want) {
			t.Errorf("Sides of %d: %q, %v", i+1, s, ok)
		}
	}
}

// P11.1: many leaves.
func TestLong(t *testing.T) {
	const n = 1<<12 + 3
	l := names(n)
	for _, m := range []int{1, 2, 1 << 11, 1<<12 - 1, 1 << 12, 1<<12 + 1, n - 1, n} {
		sums := extended(m, l)
		s, ok := clash.Sides(m, rootOver(l[:m]), l, sums...)
		for i, p := range s {
			if p.A != p.B || i == 0 && p.A != textOver(l) {
				t.Errorf("%d of %d: %q", m, i, p)
			}
		}
		if !ok {
			t.Errorf("%d", m)
		}
		p, ok := clash.Prefix(m, api.Sum{1}, l, sums)
		noPair(t, strconv.Itoa(m), p, ok)
	}
}
