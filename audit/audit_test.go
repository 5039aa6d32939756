package audit_test

import (
	"math"
	"math/rand"
	"slices"
	"strconv"
	"testing"

	"hindsight/api"
	"hindsight/audit"
	"hindsight/clash"
	"hindsight/digest"
	"hindsight/object"
	"hindsight/proof"
	"hindsight/prune"
	"hindsight/replay"
	"hindsight/stock"
)

// edges are numbers that no vault has commands for.
var edges = []int{math.MinInt, math.MinInt + 1, -1 << 32, -2, -1, 1 << 40, math.MaxInt - 1, math.MaxInt}

// The verdicts that tell nothing more.
var (
	refused = audit.Verdict{Kind: 0}
	right   = audit.Verdict{Kind: 1}
	unknown = audit.Verdict{Kind: 3}
)

// names are n commands, all unlike.
func names(n int) []string {
	l := make([]string, n)
	for i := range l {
		l[i] = "command " + strconv.Itoa(i)
	}
	return l
}

// rootOver is the root over leaves, by the document's words.
func rootOver(l []string) api.Sum {
	switch len(l) {
	case 0:
		return digest.Of("")
	case 1:
		return digest.Leaf(l[0])
	}
	k := 1
	for 2*k < len(l) {
		k *= 2
	}
	return digest.Node(rootOver(l[:k]), rootOver(l[k:]))
}

// headOver is the head over leaves.
func headOver(l []string) proof.Head {
	return proof.Head{N: len(l), Root: rootOver(l)}
}

// model is what verdicts are held against: a vault's commands, its floor, and a vault of which none went.
type model struct {
	all   []string
	floor int
	whole *prune.Vault
}

// told is a model, and the vault that it tells of.
func told(t *testing.T, all []string, floor int) (model, *prune.Vault) {
	t.Helper()
	m := model{all, floor, prune.New()}
	m.whole.Add(all...)
	v := prune.New()
	v.Add(all...)
	if err := v.Keep(floor); err != nil {
		t.Fatalf("Keep(%d) of %d: %v", floor, len(all), err)
	}
	return m, v
}

// headless: has the vault no head over so many?
func (m model) headless(n int) bool {
	return n < m.floor || n > len(m.all)
}

// leaf is the verdict of Leaf, told anew.
func (m model) leaf(text string, p proof.Proof) audit.Verdict {
	if m.headless(p.N) || p.Kind != 1 {
		return refused
	}
	h := headOver(m.all[:p.N])
	if proof.Inclusion(text, p.I, h, p.Sums...) != nil {
		return refused
	}
	if p.I < m.floor {
		return unknown
	}
	if m.all[p.I] == text {
		return right
	}
	own, _ := m.whole.Leaf(p.I, p.N)
	pair, _ := clash.Leaves(p.I, h, m.all[p.I], own.Sums, text, p.Sums)
	return audit.Verdict{Kind: 2, Pair: pair}
}

// prefix is the verdict of Prefix, told anew.
func (m model) prefix(old proof.Head, p proof.Proof) audit.Verdict {
	if m.headless(p.N) || p.Kind != 2 || p.I != old.N {
		return refused
	}
	if proof.Consistency(old, headOver(m.all[:p.N]), p.Sums...) != nil {
		return refused
	}
	if m.headless(old.N) {
		return unknown
	}
	if old == headOver(m.all[:old.N]) {
		return right
	}
	if m.floor > 0 {
		return unknown
	}
	pair, _ := clash.Prefix(old.N, old.Root, m.all[:p.N], p.Sums)
	return audit.Verdict{Kind: 2, Pair: pair}
}

// gives looks at one verdict, whole.
func gives(t *testing.T, name string, got, want audit.Verdict) {
	t.Helper()
	if got != want {
		t.Errorf("%s: %+v, want %+v", name, got, want)
	}
}

// turned are sums with one bit of the k-th turned.
func turned(sums []api.Sum, k, bit int) []api.Sum {
	l := slices.Clone(sums)
	l[k][bit/8] ^= 1 << (bit % 8)
	return l
}

// P25.1: the kinds, and the zero Verdict.
func TestKinds(t *testing.T) {
	if audit.Refused != 0 || audit.Right != 1 || audit.Broken != 2 || audit.Unknown != 3 {
		t.Error("the kinds have other numbers")
	}
}

// P25.1: the chapter's example.
func TestExample(t *testing.T) {
	v := prune.New()
	v.Add("a", "b", "c")
	for i, s := range []string{"a", "b", "c"} {
		p, _ := v.Leaf(i, 3)
		gives(t, "its own command", audit.Leaf(v, s, p), right)
		gives(t, "another command", audit.Leaf(v, "x", p), refused)
	}
}

// P25.1: Leaf, of five commands, in the document's words.
func TestLeafByHand(t *testing.T) {
	a, b, c, d, e := digest.Leaf("a"), digest.Leaf("b"), digest.Leaf("c"), digest.Leaf("d"), digest.Leaf("e")
	ab, cd := digest.Node(a, b), digest.Node(c, d)
	ofD := []api.Sum{c, ab, e}
	for _, x := range []struct {
		name, text string
		floor      int
		p          proof.Proof
		want       audit.Verdict
	}{
		{"right", "d", 0, proof.Proof{Kind: 1, I: 3, N: 5, Sums: ofD}, right},
		{"under an elder head", "d", 0, proof.Proof{Kind: 1, I: 3, N: 4, Sums: []api.Sum{c, ab}}, right},
		{"the last one, without its fellows", "e", 0, proof.Proof{Kind: 1, I: 4, N: 5, Sums: []api.Sum{digest.Node(ab, cd)}}, right},
		{"the one of one", "a", 0, proof.Proof{Kind: 1, I: 0, N: 1}, right},
		{"an empty list", "a", 0, proof.Proof{Kind: 1, I: 0, N: 1, Sums: []api.Sum{}}, right},
		{"another text", "c", 0, proof.Proof{Kind: 1, I: 3, N: 5, Sums: ofD}, refused},
		{"no text", "", 0, proof.Proof{Kind: 1, I: 3, N: 5, Sums: ofD}, refused},
		{"a node as a text", "\x01" + string(a[:]) + string(b[:]), 0, proof.Proof{Kind: 1, I: 0, N: 2}, refused},
		{"at another place", "d", 0, proof.Proof{Kind: 1, I: 2, N: 5, Sums: ofD}, refused},
		{"under another head", "d", 0, proof.Proof{Kind: 1, I: 3, N: 4, Sums: ofD}, refused},
		{"too few sums", "d", 0, proof.Proof{Kind: 1, I: 3, N: 5, Sums: ofD[:2]}, refused},
		{"too many sums", "d", 0, proof.Proof{Kind: 1, I: 3, N: 5, Sums: []api.Sum{c, ab, e, e}}, refused},
		{"no kind", "d", 0, proof.Proof{I: 3, N: 5, Sums: ofD}, refused},
		{"a Prefix", "d", 0, proof.Proof{Kind: 2, I: 3, N: 5, Sums: ofD}, refused},
		{"a Prefix of none, which proves the zero head nowhere", "d", 0, proof.Proof{Kind: 2, I: 0, N: 5}, refused},
		{"a kind that is none", "d", 0, proof.Proof{Kind: 3, I: 3, N: 5, Sums: ofD}, refused},
		{"a kind below 0", "d", 0, proof.Proof{Kind: -1, I: 3, N: 5, Sums: ofD}, refused},
		{"a head of more", "d", 0, proof.Proof{Kind: 1, I: 3, N: 6, Sums: ofD}, refused},
		{"below 0", "a", 0, proof.Proof{Kind: 1, I: -1, N: 1}, refused},
		{"not below N", "a", 0, proof.Proof{Kind: 1, I: 1, N: 1}, refused},
		{"the head of none", "a", 0, proof.Proof{Kind: 1, I: 0, N: 0}, refused},
		{"the zero Proof", "", 0, proof.Proof{}, refused},
		{"kept yet, at the floor", "d", 3, proof.Proof{Kind: 1, I: 3, N: 5, Sums: ofD}, right},
		{"gone, right below the floor", "d", 4, proof.Proof{Kind: 1, I: 3, N: 5, Sums: ofD}, unknown},
		{"gone, and all others too", "d", 5, proof.Proof{Kind: 1, I: 3, N: 5, Sums: ofD}, unknown},
		{"gone, under the head of those that went", "d", 4, proof.Proof{Kind: 1, I: 3, N: 4, Sums: []api.Sum{c, ab}}, unknown},
		{"gone, and the head too", "d", 5, proof.Proof{Kind: 1, I: 3, N: 4, Sums: []api.Sum{c, ab}}, refused},
		{"gone, but another text", "c", 4, proof.Proof{Kind: 1, I: 3, N: 5, Sums: ofD}, refused},
		{"gone, but a Prefix", "d", 4, proof.Proof{Kind: 2, I: 3, N: 5, Sums: ofD}, refused},
	} {
		m, v := told(t, []string{"a", "b", "c", "d", "e"}, x.floor)
		gives(t, x.name, audit.Leaf(v, x.text, x.p), x.want)
		gives(t, x.name+", told anew", m.leaf(x.text, x.p), x.want)
	}
}

// P25.1: Prefix, of five commands, in the document's words.
func TestPrefixByHand(t *testing.T) {
	a, b, c, d, e := digest.Leaf("a"), digest.Leaf("b"), digest.Leaf("c"), digest.Leaf("d"), digest.Leaf("e")
	ab, cd := digest.Node(a, b), digest.Node(c, d)
	none, two := proof.Head{Root: digest.Of("")}, proof.Head{N: 2, Root: ab}
	three := proof.Head{N: 3, Root: digest.Node(ab, c)}
	five := proof.Head{N: 5, Root: digest.Node(digest.Node(ab, cd), e)}
	ofThree := []api.Sum{c, d, ab, e}
	for _, x := range []struct {
		name  string
		old   proof.Head
		floor int
		p     proof.Proof
		want  audit.Verdict
	}{
		{"right", three, 0, proof.Proof{Kind: 2, I: 3, N: 5, Sums: ofThree}, right},
		{"under an elder head", three, 0, proof.Proof{Kind: 2, I: 3, N: 4, Sums: []api.Sum{c, d, ab}}, right},
		{"one that the proof begins with", two, 0, proof.Proof{Kind: 2, I: 2, N: 5, Sums: []api.Sum{cd, e}}, right},
		{"the same head", five, 0, proof.Proof{Kind: 2, I: 5, N: 5}, right},
		{"the head of none", none, 0, proof.Proof{Kind: 2, I: 0, N: 5}, right},
		{"the head of none, under itself", none, 0, proof.Proof{Kind: 2, I: 0, N: 0, Sums: []api.Sum{}}, right},
		{"another root", proof.Head{N: 3, Root: five.Root}, 0, proof.Proof{Kind: 2, I: 3, N: 5, Sums: ofThree}, refused},
		{"the zero root", proof.Head{N: 3}, 0, proof.Proof{Kind: 2, I: 3, N: 5, Sums: ofThree}, refused},
		{"the zero Head", proof.Head{}, 0, proof.Proof{Kind: 2, I: 0, N: 5}, refused},
		{"the zero Head, under none", proof.Head{}, 0, proof.Proof{Kind: 2, I: 0, N: 0}, refused},
		{"of another number", two, 0, proof.Proof{Kind: 2, I: 3, N: 5, Sums: ofThree}, refused},
		{"under another head", three, 0, proof.Proof{Kind: 2, I: 3, N: 4, Sums: ofThree}, refused},
		{"too few sums", three, 0, proof.Proof{Kind: 2, I: 3, N: 5, Sums: ofThree[:3]}, refused},
		{"too many sums", three, 0, proof.Proof{Kind: 2, I: 3, N: 5, Sums: []api.Sum{c, d, ab, e, e}}, refused},
		{"the same head, and a sum", five, 0, proof.Proof{Kind: 2, I: 5, N: 5, Sums: []api.Sum{five.Root}}, refused},
		{"no kind", three, 0, proof.Proof{I: 3, N: 5, Sums: ofThree}, refused},
		{"a Leaf", three, 0, proof.Proof{Kind: 1, I: 3, N: 5, Sums: ofThree}, refused},
		{"a Leaf of no text", none, 0, proof.Proof{Kind: 1, I: 0, N: 5, Sums: []api.Sum{b, cd, e}}, refused},
		{"a kind that is none", three, 0, proof.Proof{Kind: 3, I: 3, N: 5, Sums: ofThree}, refused},
		{"a kind below 0", three, 0, proof.Proof{Kind: -2, I: 3, N: 5, Sums: ofThree}, refused},
		{"a head of more", three, 0, proof.Proof{Kind: 2, I: 3, N: 6, Sums: ofThree}, refused},
		{"an elder head of more", five, 0, proof.Proof{Kind: 2, I: 5, N: 4}, refused},
		{"an elder head below 0", proof.Head{N: -1}, 0, proof.Proof{Kind: 2, I: -1, N: 5}, refused},
		{"the zero Proof", none, 0, proof.Proof{}, refused},
		{"kept yet, at the floor", three, 3, proof.Proof{Kind: 2, I: 3, N: 5, Sums: ofThree}, right},
		{"kept yet, and the same", five, 5, proof.Proof{Kind: 2, I: 5, N: 5}, right},
		{"gone, right below the floor", three, 4, proof.Proof{Kind: 2, I: 3, N: 5, Sums: ofThree}, unknown},
		{"gone, under the head of those that went", three, 4, proof.Proof{Kind: 2, I: 3, N: 4, Sums: []api.Sum{c, d, ab}}, unknown},
		{"gone, the head of none", none, 1, proof.Proof{Kind: 2, I: 0, N: 5}, unknown},
		{"gone, and the head too", three, 5, proof.Proof{Kind: 2, I: 3, N: 4, Sums: []api.Sum{c, d, ab}}, refused},
		{"gone, but another root", proof.Head{N: 3, Root: ab}, 4, proof.Proof{Kind: 2, I: 3, N: 5, Sums: ofThree}, refused},
		{"gone, the zero Head under none, which is gone too", proof.Head{}, 1, proof.Proof{Kind: 2, I: 0, N: 0}, refused},
		{"gone, but a Leaf", three, 4, proof.Proof{Kind: 1, I: 3, N: 5, Sums: ofThree}, refused},
	} {
		m, v := told(t, []string{"a", "b", "c", "d", "e"}, x.floor)
		gives(t, x.name, audit.Prefix(v, x.old, x.p), x.want)
		gives(t, x.name+", told anew", m.prefix(x.old, x.p), x.want)
	}
}

// P25.2: what a vault's own proofs prove is Right, or Unknown, when it is gone by now; under a head that is gone too nothing is proved.
func TestOwnProofs(t *testing.T) {
	const n, more = 9, 3
	all := names(n + more)
	for floor := range n + 1 {
		m, v := told(t, all, floor)
		for k := range n + more + 1 {
			for i := range k {
				p, _ := m.whole.Leaf(i, k)
				gives(t, "a command", audit.Leaf(v, all[i], p), ownVerdict(i, k, floor))
			}
			for i := range k + 1 {
				p, _ := m.whole.Prefix(i, k)
				gives(t, "a head", audit.Prefix(v, headOver(all[:i]), p), ownVerdict(i, k, floor))
			}
		}
	}
}

// ownVerdict is that on an own proof of a command, or head, i under the head of k.
func ownVerdict(i, k, floor int) audit.Verdict {
	switch {
	case k < floor:
		return refused
	case i < floor:
		return unknown
	}
	return right
}

// P25.2: what a vault answered stays so while it grows, and is gone when its commands go; what it answers then is Right.
func TestWhileItGrows(t *testing.T) {
	all := names(40)
	v := prune.New()
	var was []proof.Proof
	for i, s := range all {
		v.Add(s)
		if err := v.Keep(max(0, i-7)); err != nil {
			t.Fatal(err)
		}
		for k := v.Floor(); k <= i; k++ {
			p, err := v.Leaf(k, i+1)
			if err != nil {
				t.Fatal(err)
			}
			gives(t, "a command that is there", audit.Leaf(v, all[k], p), right)
			was = append(was, p)
			old, _ := v.Head(k)
			if p, err = v.Prefix(k, i+1); err != nil {
				t.Fatal(err)
			}
			gives(t, "a head that is there", audit.Prefix(v, old, p), right)
		}
		for _, p := range was {
			gives(t, "what was answered", audit.Leaf(v, all[p.I], p), ownVerdict(p.I, p.N, v.Floor()))
		}
	}
}

// P25.1: of what isn't so, as long as sums are whole, nothing is proved: one bit of one sum is turned, or a text is another one, or a root.
func TestNothingIsProved(t *testing.T) {
	for n := 1; n < 9; n++ {
		all := names(n)
		for floor := range n + 1 {
			_, v := told(t, all, floor)
			m, _ := told(t, all, 0)
			for i := range n {
				p, _ := m.whole.Leaf(i, n)
				gives(t, "another text", audit.Leaf(v, all[i]+"?", p), refused)
				for k := range p.Sums {
					q := proof.Proof{Kind: 1, I: i, N: n, Sums: turned(p.Sums, k, 37*k+i)}
					gives(t, "a bit turned", audit.Leaf(v, all[i], q), refused)
				}
				old := headOver(all[:i])
				p, _ = m.whole.Prefix(i, n)
				gives(t, "another root", audit.Prefix(v, proof.Head{N: i, Root: api.Sum{1}}, p), refused)
				for k := range p.Sums {
					q := proof.Proof{Kind: 2, I: i, N: n, Sums: turned(p.Sums, k, 37*k+i)}
					gives(t, "a bit turned", audit.Prefix(v, old, q), refused)
				}
			}
		}
	}
}

// P25.1: numbers far outside, and very many sums.
func TestOutside(t *testing.T) {
	m, v := told(t, names(9), 4)
	for _, i := range append(slices.Clone(edges), 3, 4, 9, 10) {
		for _, n := range append(slices.Clone(edges), 3, 4, 9, 10) {
			for _, kind := range append(slices.Clone(edges), 0, 1, 2, 3) {
				for _, sums := range [][]api.Sum{nil, make([]api.Sum, 2), make([]api.Sum, 1000)} {
					p := proof.Proof{Kind: kind, I: i, N: n, Sums: sums}
					gives(t, "Leaf", audit.Leaf(v, "a", p), m.leaf("a", p))
					gives(t, "Prefix", audit.Prefix(v, proof.Head{N: i}, p), m.prefix(proof.Head{N: i}, p))
					gives(t, "Prefix of another number", audit.Prefix(v, proof.Head{N: n}, p), m.prefix(proof.Head{N: n}, p))
				}
			}
		}
	}
}

// P25.1: a vault that nothing came to.
func TestEmptyVault(t *testing.T) {
	v := prune.New()
	none := headOver(nil)
	gives(t, "no command", audit.Leaf(v, "", proof.Proof{Kind: 1}), refused)
	gives(t, "the head of none", audit.Prefix(v, none, proof.Proof{Kind: 2}), right)
	gives(t, "another root", audit.Prefix(v, proof.Head{}, proof.Proof{Kind: 2}), refused)
	gives(t, "a head of one", audit.Prefix(v, none, proof.Proof{Kind: 2, N: 1}), refused)
}

// P25.1: commands are any bytes, and some may be the same.
func TestAnyCommands(t *testing.T) {
	all := []string{"", "", "\x00", "\x01", "\xff\xfe", "a", "a"}
	for floor := range len(all) + 1 {
		m, v := told(t, all, floor)
		for i := range all {
			for k := range all {
				p, _ := m.whole.Leaf(i, len(all))
				gives(t, "Leaf", audit.Leaf(v, all[k], p), m.leaf(all[k], p))
				gives(t, "a Leaf, also of no bytes, as a Prefix", audit.Prefix(v, headOver(all[:k]), p), refused)
				p.I = k
				gives(t, "Leaf at another place", audit.Leaf(v, all[i], p), m.leaf(all[i], p))
			}
		}
	}
}

// P25.2: proofs of another vault that begins likewise: what both have in common is Right, or Unknown; all else is refused.
func TestAnotherVault(t *testing.T) {
	const common, n = 5, 9
	all := names(n)
	others := slices.Concat(all[:common], []string{"other 5", "other 6", "other 7", "other 8"})
	for floor := range n + 1 {
		_, v := told(t, all, floor)
		x := prune.New()
		x.Add(others...)
		for k := range n + 1 {
			for i := range k {
				p, _ := x.Leaf(i, k)
				want := ownVerdict(i, k, floor)
				if k > common {
					want = refused
				}
				gives(t, "a command of another vault", audit.Leaf(v, others[i], p), want)
				p, _ = x.Prefix(i, k)
				old, _ := x.Head(i)
				if i == 0 {
					want = ownVerdict(i, k, floor) // the head of none is an elder one of all
				}
				gives(t, "a head of another vault", audit.Prefix(v, old, p), want)
			}
		}
	}
}

// P25.2: clones, and the vaults of lines and of their branches.
func TestVaultsFromElsewhere(t *testing.T) {
	l := replay.New(object.Stock)
	for i := range 7 {
		l.Do(replay.Command{Op: object.Op{Kind: object.Stock, Stock: stock.Op{Kind: stock.Add, Name: "nut", N: i + 1}}})
	}
	p, _ := l.Leaf(3, 5)
	q, _ := l.Prefix(4, 5)
	old, _ := l.Head(4)
	command, _ := l.Vault.At(3)
	c, _ := l.Vault.Clone(6)
	b, err := l.Branch(5)
	if err != nil {
		t.Fatal(err)
	}
	for name, v := range map[string]*prune.Vault{"line": l.Vault, "clone": c, "branch": b.Vault} {
		gives(t, name, audit.Leaf(v, command, p), right)
		gives(t, name, audit.Leaf(v, command+" ", p), refused)
		gives(t, name, audit.Prefix(v, old, q), right)
		gives(t, name, audit.Prefix(v, proof.Head{N: 4}, q), refused)
	}
	if err := l.Retain(5); err != nil {
		t.Fatal(err)
	}
	gives(t, "a command that a line forgot", audit.Leaf(l.Vault, command, p), unknown)
	gives(t, "a head that a line forgot", audit.Prefix(l.Vault, old, q), unknown)
	gives(t, "the branch goes its own way", audit.Leaf(b.Vault, command, p), right)
}

// K3, K4: what is handed in isn't changed, room behind it neither, nor the vault; the same call is answered in the same way.
func TestChangesNothing(t *testing.T) {
	all := names(9)
	m, v := told(t, all, 4)
	leaf, _ := v.Leaf(5, 9)
	prefix, _ := v.Prefix(5, 9)
	room := make([]api.Sum, 0, 40)
	leaf.Sums = append(room, leaf.Sums...)
	prefix.Sums = append(make([]api.Sum, 0, 40), prefix.Sums...)
	leafWas, prefixWas := slices.Clone(leaf.Sums[:cap(leaf.Sums)]), slices.Clone(prefix.Sums[:cap(prefix.Sums)])
	for range 3 {
		gives(t, "Leaf", audit.Leaf(v, all[5], leaf), right)
		gives(t, "Leaf of another text", audit.Leaf(v, "?", leaf), refused)
		gives(t, "Prefix", audit.Prefix(v, headOver(all[:5]), prefix), right)
		gives(t, "Prefix of another root", audit.Prefix(v, proof.Head{N: 5}, prefix), refused)
	}
	if !slices.Equal(leaf.Sums[:cap(leaf.Sums)], leafWas) || !slices.Equal(prefix.Sums[:cap(prefix.Sums)], prefixWas) {
		t.Error("what was handed in changes")
	}
	if v.Len() != 9 || v.Floor() != 4 {
		t.Errorf("Len %d, Floor %d", v.Len(), v.Floor())
	}
	for n := 4; n <= 9; n++ {
		got, _ := v.Head(n)
		want, _ := m.whole.Head(n)
		if got != want {
			t.Errorf("Head(%d) changes", n)
		}
	}
}

// P25.1, P25.2: behind any calls, right proofs and wrong ones, of vaults and their clones.
func TestAnyCalls(t *testing.T) {
	r := rand.New(rand.NewSource(25))
	var count [4]int
	for range 20000 {
		n := r.Intn(12)
		m, v := told(t, names(n), r.Intn(n+1))
		if r.Intn(2) == 0 {
			k := m.floor + r.Intn(n-m.floor+1)
			c, err := v.Clone(k)
			if err != nil {
				t.Fatal(err)
			}
			c.Add("of", "the", "clone")
			all := append(slices.Clone(m.all[:k]), "of", "the", "clone")
			m, _ = told(t, all, m.floor)
			v, n = c, len(all)
		}
		k := r.Intn(n + 2)
		i := r.Intn(k + 1)
		text, old := names(k + 2)[i], headOver(names(i))
		leaf, _ := m.whole.Leaf(i, k)
		prefix, _ := m.whole.Prefix(i, k)
		if i < n {
			text = m.all[i]
		}
		if i <= n {
			old = headOver(m.all[:i])
		}
		for _, p := range []proof.Proof{leaf, prefix} {
			switch r.Intn(12) {
			case 0:
				p.Kind = r.Intn(4)
			case 1:
				p.I += r.Intn(3) - 1
			case 2:
				p.N += r.Intn(3) - 1
			case 3:
				p.Sums = append(slices.Clone(p.Sums), api.Sum{})
			case 4:
				text += "?"
			case 5:
				old.Root[r.Intn(32)]++
			}
			x, y := audit.Leaf(v, text, p), audit.Prefix(v, old, p)
			gives(t, "Leaf", x, m.leaf(text, p))
			gives(t, "Prefix", y, m.prefix(old, p))
			count[x.Kind]++
			count[y.Kind]++
		}
	}
	if count[audit.Refused] < 1000 || count[audit.Right] < 1000 || count[audit.Unknown] < 1000 || count[audit.Broken] != 0 {
		t.Errorf("too little is looked at: %v", count)
	}
}

// P25.1: long vaults.
func TestLong(t *testing.T) {
	const n = 1<<13 + 3
	all := names(n)
	m, v := told(t, all, n/2)
	for _, i := range []int{0, 1, n/2 - 1, n / 2, 1 << 12, n - 2, n - 1} {
		p, _ := m.whole.Leaf(i, n)
		gives(t, "Leaf", audit.Leaf(v, all[i], p), ownVerdict(i, n, n/2))
		gives(t, "another text", audit.Leaf(v, all[i]+"?", p), refused)
		p, _ = m.whole.Prefix(i, n)
		old, _ := m.whole.Head(i)
		gives(t, "Prefix", audit.Prefix(v, old, p), ownVerdict(i, n, n/2))
	}
}
