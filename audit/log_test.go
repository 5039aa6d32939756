package audit_test

import (
	"errors"
	"math"
	"math/rand"
	"slices"
	"strconv"
	"testing"

	"hindsight/api"
	"hindsight/audit"
	"hindsight/digest"
	"hindsight/fault"
	"hindsight/proof"
	"hindsight/prune"
)

// says looks at the word of an error, which tells all its steps and places; no word: whether there is none.
func says(t *testing.T, name string, err error, word string) {
	t.Helper()
	if word == "" {
		if err != nil {
			t.Errorf("%s: %v", name, err)
		}
		return
	}
	if err == nil || err.Error() != word {
		t.Errorf("%s: %v, want %s", name, err, word)
	}
}

// has looks which heads a log has.
func has(t *testing.T, g *audit.Log, want ...proof.Head) {
	t.Helper()
	if got := g.Heads(); !slices.Equal(got, want) {
		t.Errorf("Heads: %+v, want %+v", got, want)
	}
}

// P25.1: the zero Log.
func TestZeroLog(t *testing.T) {
	var g audit.Log
	has(t, &g)
	for _, n := range append(slices.Clone(edges), 0, 1) {
		h, err := g.Find(n)
		says(t, "Find", err, "find "+strconv.Itoa(n)+": none")
		if h != (proof.Head{}) {
			t.Errorf("Find(%d): %+v beside an error", n, h)
		}
		says(t, "Check", g.Check("", proof.Proof{Kind: 1, I: 7, N: n}), "check 7: find "+strconv.Itoa(n)+": none")
	}
	has(t, &g)
}

// P25.1: Add, in the document's words; what it refuses changes nothing.
func TestAdd(t *testing.T) {
	a, b, c, d := digest.Leaf("a"), digest.Leaf("b"), digest.Leaf("c"), digest.Leaf("d")
	ab, cd := digest.Node(a, b), digest.Node(c, d)
	two, three := proof.Head{N: 2, Root: ab}, proof.Head{N: 3, Root: digest.Node(ab, c)}
	four := proof.Head{N: 4, Root: digest.Node(ab, cd)}
	var g audit.Log
	says(t, "the first one", g.Add(two), "")
	has(t, &g, two)
	says(t, "no sums", g.Add(three), "add 1: prefix 2: proof")
	says(t, "other sums", g.Add(three, d), "add 1: prefix 2: proof")
	says(t, "more sums", g.Add(three, c, c), "add 1: prefix 2: proof")
	says(t, "another root", g.Add(proof.Head{N: 3, Root: ab}, c), "add 1: prefix 2: proof")
	says(t, "fewer", g.Add(proof.Head{N: 1, Root: a}, b), "add 1: prefix 2: range")
	says(t, "none", g.Add(proof.Head{Root: digest.Of("")}), "add 1: prefix 2: range")
	says(t, "below 0", g.Add(proof.Head{N: -1}), "add 1: prefix 2: range")
	says(t, "far below", g.Add(proof.Head{N: math.MinInt}), "add 1: prefix 2: range")
	says(t, "far above", g.Add(proof.Head{N: math.MaxInt}, make([]api.Sum, 62)...), "add 1: prefix 2: proof")
	has(t, &g, two)
	says(t, "three", g.Add(three, c), "")
	has(t, &g, two, three)
	says(t, "the same once more, by a sum", g.Add(three, c), "add 2: prefix 3: proof")
	says(t, "as many, another root", g.Add(proof.Head{N: 3, Root: ab}), "add 2: prefix 3: proof")
	says(t, "what goes on from one ahead of the last one", g.Add(four, cd), "add 2: prefix 3: proof")
	says(t, "one ahead of the last one", g.Add(two), "add 2: prefix 3: range")
	has(t, &g, two, three)
	says(t, "the same once more", g.Add(three, []api.Sum{}...), "")
	says(t, "four", g.Add(four, c, d, ab), "")
	has(t, &g, two, three, three, four)
	says(t, "behind four", g.Add(two), "add 4: prefix 4: range")
}

// P25.1: numbers stand behind what Add, Find and Check answer, and Consistency's own fault behind Add's.
func TestWhatStandsBehind(t *testing.T) {
	var g audit.Log
	g.Add(headOver(names(3)))
	err := g.Add(headOver(names(2)))
	var f *fault.Fault
	if !errors.As(err, &f) || error(f) != err || f.Step != "add" || f.At != 1 {
		t.Errorf("Add: %v", err)
	}
	want := proof.Consistency(headOver(names(3)), headOver(names(2)))
	if f.Err == nil || f.Err.Error() != want.Error() || !errors.Is(err, api.ErrRange) {
		t.Errorf("behind Add: %v, want %v", f.Err, want)
	}
	for path, err := range map[string]error{
		"add/prefix/proof": g.Add(headOver(names(4))),
		"check/find/none":  g.Check("", proof.Proof{Kind: 1, N: 2}),
		"check/kind":       g.Check("", proof.Proof{N: 3}),
		"check/leaf/proof": g.Check("", proof.Proof{Kind: 1, N: 3}),
		"check/leaf/range": g.Check("", proof.Proof{Kind: 1, I: 3, N: 3}),
	} {
		if fault.Path(err) != path {
			t.Errorf("%v, want %s", err, path)
		}
	}
	if _, err := g.Find(4); !errors.Is(err, api.ErrNone) || fault.Path(err) != "find/none" {
		t.Errorf("Find: %v", err)
	}
}

// P25.1: the first head may be any; nothing is proved of it.
func TestAnyFirstHead(t *testing.T) {
	for _, first := range []proof.Head{{}, {N: 0, Root: api.Sum{1}}, {N: 7, Root: api.Sum{2}}, {N: -3}, {N: math.MinInt}, {N: math.MaxInt}} {
		var g audit.Log
		says(t, "Add", g.Add(first, api.Sum{1}, api.Sum{2}), "")
		has(t, &g, first)
		h, err := g.Find(first.N)
		says(t, "Find", err, "")
		if h != first {
			t.Errorf("Find(%d): %+v", first.N, h)
		}
		word := ""
		if first.N < 0 {
			word = "add 1: prefix " + strconv.Itoa(first.N) + ": range"
		}
		says(t, "the same once more", g.Add(first), word)
	}
	var g audit.Log
	says(t, "Add", g.Add(proof.Head{N: -3}), "")
	says(t, "Check", g.Check("", proof.Proof{Kind: 1, I: -4, N: -3}), "check -4: leaf -4: range")
	says(t, "Add", g.Add(headOver(nil)), "add 1: prefix -3: range")
}

// logOf is a log of the heads of a vault over so many commands each.
func logOf(t *testing.T, v *prune.Vault, l ...int) *audit.Log {
	t.Helper()
	g := &audit.Log{}
	for i, n := range l {
		h, err := v.Head(n)
		if err != nil {
			t.Fatal(err)
		}
		p, err := v.Prefix(l[max(i-1, 0)], n)
		if err != nil {
			t.Fatal(err)
		}
		says(t, "Add", g.Add(h, p.Sums...), "")
	}
	return g
}

// P25.1: Find, of every number, among heads of which some are over as many.
func TestFind(t *testing.T) {
	all := names(20)
	v := prune.New()
	v.Add(all...)
	for _, l := range [][]int{{0}, {5}, {0, 1, 2, 3}, {2, 2, 2}, {0, 0, 3, 3, 3, 9, 20, 20}, {1, 4, 7, 8, 8, 15, 19}} {
		g := logOf(t, v, l...)
		for n := range 23 {
			h, err := g.Find(n)
			if slices.Contains(l, n) {
				says(t, "Find", err, "")
				if h != headOver(all[:n]) {
					t.Errorf("Find(%d): %+v", n, h)
				}
				continue
			}
			says(t, "Find", err, "find "+strconv.Itoa(n)+": none")
			if h != (proof.Head{}) {
				t.Errorf("Find(%d): %+v beside an error", n, h)
			}
		}
		for _, n := range edges {
			_, err := g.Find(n)
			says(t, "Find", err, "find "+strconv.Itoa(n)+": none")
		}
	}
}

// P25.1: Check, in the document's words.
func TestCheck(t *testing.T) {
	all := names(9)
	v := prune.New()
	v.Add(all...)
	g := logOf(t, v, 3, 5, 9)
	leaf, _ := v.Leaf(2, 5)
	prefix, _ := v.Prefix(3, 5)
	with := func(change func(p *proof.Proof)) proof.Proof {
		p := leaf
		change(&p)
		return p
	}
	for _, x := range []struct {
		name, text string
		p          proof.Proof
		want       string
	}{
		{"right", all[2], leaf, ""},
		{"another text", all[3], leaf, "check 2: leaf 2: proof"},
		{"another place", all[2], with(func(p *proof.Proof) { p.I = 1 }), "check 1: leaf 1: proof"},
		{"below 0", all[2], with(func(p *proof.Proof) { p.I = -1 }), "check -1: leaf -1: range"},
		{"not below N", all[2], with(func(p *proof.Proof) { p.I = 5 }), "check 5: leaf 5: range"},
		{"under another head", all[2], with(func(p *proof.Proof) { p.N = 9 }), "check 2: leaf 2: proof"},
		{"under a head that wasn't told", all[2], with(func(p *proof.Proof) { p.N = 4 }), "check 2: find 4: none"},
		{"no sums", all[2], with(func(p *proof.Proof) { p.Sums = nil }), "check 2: leaf 2: proof"},
		{"a bit turned", all[2], with(func(p *proof.Proof) { p.Sums = turned(p.Sums, 0, 9) }), "check 2: leaf 2: proof"},
		{"a Prefix", "", prefix, "check 3: kind"},
		{"a Prefix, and a head that wasn't told", "", proof.Proof{Kind: 2, I: 3, N: 4}, "check 3: find 4: none"},
		{"no kind", all[2], with(func(p *proof.Proof) { p.Kind = 0 }), "check 2: kind"},
		{"a kind that is none", all[2], with(func(p *proof.Proof) { p.Kind = 3 }), "check 2: kind"},
		{"a kind below 0", all[2], with(func(p *proof.Proof) { p.Kind = -1 }), "check 2: kind"},
		{"no kind, no place", all[2], with(func(p *proof.Proof) { p.Kind, p.I = 0, -1 }), "check -1: kind"},
		{"the zero Proof", "", proof.Proof{}, "check 0: find 0: none"},
	} {
		says(t, x.name, g.Check(x.text, x.p), x.want)
	}
	for n := range 10 {
		for i := range n {
			p, _ := v.Leaf(i, n)
			want := ""
			if n != 3 && n != 5 && n != 9 {
				want = "check " + strconv.Itoa(i) + ": find " + strconv.Itoa(n) + ": none"
			}
			says(t, "each command", g.Check(all[i], p), want)
		}
	}
}

// K3: what is answered, and what was handed in, shares nothing with the log.
func TestLogSharesNothing(t *testing.T) {
	all := names(9)
	v := prune.New()
	v.Add(all...)
	g := logOf(t, v, 2, 3, 5)
	p, _ := v.Prefix(5, 9)
	was := slices.Clone(p.Sums)
	first := g.Heads()
	again := slices.Clone(first)
	says(t, "Add", g.Add(headOver(all), p.Sums...), "")
	if !slices.Equal(p.Sums, was) || !slices.Equal(first, again) {
		t.Error("what was handed in, or answered, changes")
	}
	clear(p.Sums)
	clear(first[:cap(first)])
	l := g.Heads()
	clear(l[:cap(l)])
	has(t, g, headOver(all[:2]), headOver(all[:3]), headOver(all[:5]), headOver(all))
	says(t, "Add", g.Add(headOver(all)), "")
	has(t, g, headOver(all[:2]), headOver(all[:3]), headOver(all[:5]), headOver(all), headOver(all))
}

// offer is a head that a log may be told.
type offer struct {
	line []string
	v    *prune.Vault
	n    int
}

// offers are all heads of lines that branch off each other.
func offers() []offer {
	base := names(12)
	var l []offer
	for _, fork := range []int{12, 9, 5, 4, 1, 0} {
		line := slices.Clone(base[:fork])
		for len(line) < 12 {
			line = append(line, "of "+strconv.Itoa(fork)+": "+strconv.Itoa(len(line)))
		}
		v := prune.New()
		v.Add(line...)
		for n := range 13 {
			l = append(l, offer{line[:n], v, n})
		}
	}
	return l
}

// begins: are some commands the first ones of others?
func begins(l, more []string) bool {
	return len(l) <= len(more) && slices.Equal(l, more[:len(l)])
}

// P25.3: ONE WAY: whatever heads a log is told, and by whatever proofs: those that it has are elder ones, each of all that came behind it.
func TestOneWay(t *testing.T) {
	r := rand.New(rand.NewSource(253))
	all := offers()
	taken, diverged, wrong := 0, 0, 0
	for range 400 {
		var g audit.Log
		var lines [][]string
		for range 60 {
			x := all[r.Intn(len(all))]
			if r.Intn(3) == 0 {
				x = all[r.Intn(13)]
			}
			last := 0
			if len(lines) > 0 {
				last = len(lines[len(lines)-1])
			}
			p, _ := x.v.Prefix(last, x.n)
			sums, bent := p.Sums, false
			if r.Intn(4) == 0 && len(sums) > 0 {
				sums, bent = turned(sums, r.Intn(len(sums)), r.Intn(256)), true
			}
			h, _ := x.v.Head(x.n)
			err := g.Add(h, sums...)
			goesOn := len(lines) == 0 || begins(lines[len(lines)-1], x.line)
			if want := goesOn && (!bent || len(lines) == 0); (err == nil) != want {
				t.Fatalf("Add of %q behind %q, bent %v: %v", x.line, lines, bent, err)
			}
			switch {
			case err == nil:
				lines = append(lines, x.line)
				taken++
			case !goesOn && len(x.line) >= last:
				diverged++
			case goesOn:
				wrong++
			}
		}
		isOneWay(t, g.Heads(), lines)
	}
	if taken < 1000 || diverged < 1000 || wrong < 100 {
		t.Errorf("too little is looked at: %d, %d, %d", taken, diverged, wrong)
	}
}

// isOneWay looks whether heads are those of lines, each of which begins all behind it.
func isOneWay(t *testing.T, heads []proof.Head, lines [][]string) {
	t.Helper()
	if len(heads) != len(lines) {
		t.Fatalf("%d heads of %d", len(heads), len(lines))
	}
	for j, h := range heads {
		if h != headOver(lines[j]) {
			t.Fatalf("head %d isn't that of %q", j, lines[j])
		}
		for i := range j {
			if !begins(lines[i], lines[j]) {
				t.Fatalf("%q isn't ahead of %q", lines[i], lines[j])
			}
		}
	}
}

// P25.3: what was checked under one head of a log is not another text under any other one.
func TestCheckedStays(t *testing.T) {
	all := offers()
	v := all[0].v
	g := logOf(t, v, 1, 4, 6, 7, 12)
	for _, x := range all {
		for i := range x.n {
			p, _ := x.v.Leaf(i, x.n)
			err := g.Check(x.line[i], p)
			told, _ := v.At(i)
			if err == nil && told != x.line[i] {
				t.Errorf("%d of %d: %q", i, x.n, x.line[i])
			}
			if there := slices.Contains([]int{1, 4, 6, 7, 12}, x.n) && begins(x.line, all[12].line); there != (err == nil) {
				t.Errorf("%d of %q: %v", i, x.line, err)
			}
		}
	}
}

// P25.1: many heads, each of which is found.
func TestLongLog(t *testing.T) {
	const n = 1 << 14
	v := prune.New()
	v.Add(names(n)...)
	var l []int
	for i := range n / 2 {
		l = append(l, 2*i+1)
	}
	g := logOf(t, v, l...)
	for i := range n {
		h, err := g.Find(i)
		if (err == nil) != (i%2 == 1) || err == nil && h.N != i {
			t.Fatalf("Find(%d): %+v, %v", i, h, err)
		}
	}
}
