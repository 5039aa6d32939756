package audit_test

import (
	"bytes"
	"encoding/json"
	"math/rand"
	"os"
	"os/exec"
	"path/filepath"
	"slices"
	"strconv"
	"testing"

	"hindsight/api"
	"hindsight/audit"
	"hindsight/clash"
	"hindsight/digest"
	"hindsight/proof"
)

// No two texts of one sum are known, so what is Broken is looked at where sums are weak: of four bits.
const weakDigest = `package digest

import (
	"crypto/sha256"
	"encoding/hex"

	"hindsight/api"
)

type Hash struct{ s string }

func New() *Hash { return &Hash{} }

func (h *Hash) Add(s string) { h.s += s }

func (h *Hash) Sum() api.Sum { return Of(h.s) }

func Of(s string) api.Sum {
	x := sha256.Sum256([]byte(s))
	return api.Sum{x[0] & 15}
}

func Leaf(s string) api.Sum { return Of("\x00" + s) }

func Node(a, b api.Sum) api.Sum { return Of("\x01" + string(a[:]) + string(b[:])) }

func Hex(a api.Sum) string { return hex.EncodeToString(a[:]) }
`

// weakRun are the tests that run with weak sums alone.
const weakRun = "TestWeakLeaf|TestWeakPrefix|TestWeakOwnProofs"

// P25.2: with weak sums.
func TestWithWeakSums(t *testing.T) {
	if testing.Short() {
		t.Skip("builds the program anew")
	}
	command, err := exec.LookPath("go")
	if err != nil {
		t.Skip("nothing to build with: ", err)
	}
	c := exec.Command(command, "test", "-count=1", "-v", "-overlay", weakOverlay(t), "-run", "^("+weakRun+")$", ".")
	c.Env = append(os.Environ(), "GOFLAGS=", "GOWORK=off")
	out, err := c.CombinedOutput()
	if err != nil || bytes.Contains(out, []byte("SKIP")) || bytes.Count(out, []byte("--- PASS")) != 3 {
		t.Errorf("%v\n%s", err, out)
	}
}

// weakOverlay is the name of a file that tells the go command to take weak sums for the whole ones.
func weakOverlay(t *testing.T) string {
	t.Helper()
	whole, err := filepath.Abs(filepath.Join("..", "digest", "digest.go"))
	if err != nil {
		t.Fatal(err)
	}
	dir := t.TempDir()
	weak := filepath.Join(dir, "weak.go")
	b, err := json.Marshal(map[string]map[string]string{"Replace": {whole: weak}})
	if err != nil {
		t.Fatal(err)
	}
	put(t, weak, []byte(weakDigest))
	put(t, filepath.Join(dir, "overlay.json"), b)
	return filepath.Join(dir, "overlay.json")
}

// put writes a file.
func put(t *testing.T, name string, b []byte) {
	t.Helper()
	if err := os.WriteFile(name, b, 0o644); err != nil {
		t.Fatal(err)
	}
}

// onlyWeak skips a test where sums are whole.
func onlyWeak(t *testing.T) {
	t.Helper()
	if x := digest.Of("abc"); x != (api.Sum{x[0]}) {
		t.Skip("its sums are whole")
	}
}

// any16 is one of the sums that there are.
func any16(r *rand.Rand) api.Sum {
	return api.Sum{byte(r.Intn(16))}
}

// some is sums of which each is, now and then, another one, and now and then they are more.
func some(r *rand.Rand, sums []api.Sum) []api.Sum {
	l := slices.Clone(sums)
	for k := range l {
		if r.Intn(2) == 0 {
			l[k] = any16(r)
		}
	}
	if r.Intn(20) == 0 {
		l = append(l, any16(r))
	}
	return l
}

// tally is how often each kind came out.
type tally [4]int

// holds looks at one verdict; what is Broken Is a clash, and nothing else has a pair.
func (c *tally) holds(t *testing.T, name string, got, want audit.Verdict) {
	t.Helper()
	c[want.Kind]++
	if got != want {
		t.Fatalf("%s: %+v, want %+v", name, got, want)
	}
	if got.Pair.Is() != (got.Kind == audit.Broken) || got.Kind != audit.Broken && got.Pair != (clash.Pair{}) {
		t.Fatalf("%s: %d has %q, Is %v", name, got.Kind, got.Pair, got.Pair.Is())
	}
}

// enough looks whether a test has met all that it is to meet.
func (c tally) enough(t *testing.T) {
	t.Helper()
	for kind, n := range c {
		if n < 500 {
			t.Errorf("kind %d came out %d times alone: %v", kind, n, c)
		}
	}
}

// P25.2: Leaf, of a text that is proved, and isn't the command: two texts of one sum.
func TestWeakLeaf(t *testing.T) {
	onlyWeak(t)
	r := rand.New(rand.NewSource(5))
	var c tally
	for range 100000 {
		n := 1 + r.Intn(9)
		m, v := told(t, names(n), max(0, r.Intn(2*n)-n))
		k := 1 + r.Intn(n)
		i := r.Intn(k)
		p, _ := m.whole.Leaf(i, k)
		p.Sums = some(r, p.Sums)
		text := "command " + strconv.Itoa(i+r.Intn(20))
		got := audit.Leaf(v, text, p)
		c.holds(t, "Leaf", got, m.leaf(text, p))
		if got.Kind == audit.Broken && (k < m.floor || i < m.floor || m.all[i] == text || p.Proves(text, proof.Head{}, headOver(m.all[:k])) != nil) {
			t.Fatalf("%q at %d isn't broken", text, i)
		}
	}
	c.enough(t)
}

// P25.2: Prefix, of a head that is proved, and isn't the elder one: two texts of one sum.
func TestWeakPrefix(t *testing.T) {
	onlyWeak(t)
	r := rand.New(rand.NewSource(6))
	var c tally
	goneButThere := 0 // the elder head is there, and another one; but a command is gone
	for range 200000 {
		n := 1 + r.Intn(9)
		floor := 0
		if r.Intn(2) == 0 {
			floor = r.Intn(n + 1)
		}
		m, v := told(t, names(n), floor)
		k := 1 + r.Intn(n)
		i := r.Intn(k + 1)
		p, _ := m.whole.Prefix(i, k)
		old := headOver(m.all[:i])
		if r.Intn(4) != 0 {
			p.Sums, old.Root = some(r, p.Sums), any16(r)
		}
		got := audit.Prefix(v, old, p)
		c.holds(t, "Prefix", got, m.prefix(old, p))
		if got.Kind == audit.Unknown && i >= floor {
			goneButThere++
		}
		if got.Kind == audit.Broken && (floor > 0 || old == headOver(m.all[:i]) || p.Proves("", old, headOver(m.all[:k])) != nil) {
			t.Fatalf("%d of %d isn't broken", i, k)
		}
	}
	c.enough(t)
	if goneButThere < 100 {
		t.Errorf("too little is looked at: %d", goneButThere)
	}
}

// P25.2: what a vault's own proofs prove is Right, or Unknown, also where sums are met twice.
func TestWeakOwnProofs(t *testing.T) {
	onlyWeak(t)
	for n := range 13 {
		all := names(n)
		for floor := range n + 1 {
			m, v := told(t, all, floor)
			for k := range n + 1 {
				for i := range k + 1 {
					p, _ := m.whole.Prefix(i, k)
					gives(t, "a head", audit.Prefix(v, headOver(all[:i]), p), ownVerdict(i, k, floor))
					if i < k {
						p, _ = m.whole.Leaf(i, k)
						gives(t, "a command", audit.Leaf(v, all[i], p), ownVerdict(i, k, floor))
					}
				}
			}
		}
	}
}
