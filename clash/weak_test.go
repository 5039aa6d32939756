package clash_test

import (
	"bytes"
	"math/rand"
	"os"
	"os/exec"
	"path/filepath"
	"slices"
	"strconv"
	"testing"

	"hindsight/api"
	"hindsight/clash"
	"hindsight/digest"
	"hindsight/proof"
)

// No two texts of one sum are known, so what Leaves and Prefix answer with true is looked at in a copy of the program whose sums are weak: of four bits.
const weakDigest = `package digest

import (
	"crypto/sha256"
	"encoding/hex"

	"hindsight/api"
)

type Hash struct{ s string }

func New() *Hash { return &Hash{} }

func (h *Hash) Add(s string) { h.s += s }

func (h *Hash) Sum() api.Sum { return Of(h.s) }

func Of(s string) api.Sum {
	x := sha256.Sum256([]byte(s))
	return api.Sum{x[0] & 15}
}

func Leaf(s string) api.Sum { return Of("\x00" + s) }

func Node(a, b api.Sum) api.Sum { return Of("\x01" + string(a[:]) + string(b[:])) }

func Hex(a api.Sum) string { return hex.EncodeToString(a[:]) }
`

// weakRun are the tests that run in that copy alone.
const weakRun = "TestWeakIs|TestWeakLeaves|TestWeakPrefix"

// P11.2, P11.3: with weak sums.
func TestInWeakCopy(t *testing.T) {
	if testing.Short() {
		t.Skip("builds a copy")
	}
	command, err := exec.LookPath("go")
	if err != nil {
		t.Skip("nothing to build a copy with: ", err)
	}
	c := exec.Command(command, "test", "-count=1", "-v", "-run", "^("+weakRun+")$", "./clash")
	c.Dir = weakCopy(t)
	c.Env = append(os.Environ(), "GOFLAGS=", "GOWORK=off")
	out, err := c.CombinedOutput()
	if err != nil || bytes.Contains(out, []byte("SKIP")) || bytes.Count(out, []byte("--- PASS")) != 3 {
		t.Errorf("%v\n%s", err, out)
	}
}

// weakCopy is a folder with the program, its sums weak, and this package's tests.
func weakCopy(t *testing.T) string {
	t.Helper()
	all, _ := filepath.Glob(filepath.Join("..", "*", "*.go"))
	own, _ := filepath.Glob("*_test.go")
	for i, name := range own {
		own[i] = filepath.Join("..", "clash", name)
	}
	all = slices.DeleteFunc(all, func(name string) bool {
		test, _ := filepath.Match("*_test.go", filepath.Base(name))
		return test || filepath.Base(filepath.Dir(name)) == "digest"
	})
	dir := t.TempDir()
	for _, name := range slices.Concat(all, own, []string{filepath.Join("..", "go.mod")}) {
		b, err := os.ReadFile(name)
		if err != nil {
			t.Fatal(err)
		}
		put(t, filepath.Join(dir, name[len("..")+1:]), b)
	}
	put(t, filepath.Join(dir, "digest", "digest.go"), []byte(weakDigest))
	return dir
}

// put writes a file, and the folder that it lies in.
func put(t *testing.T, name string, b []byte) {
	t.Helper()
	if err := os.MkdirAll(filepath.Dir(name), 0o755); err != nil {
		t.Fatal(err)
	}
	if err := os.WriteFile(name, b, 0o644); err != nil {
		t.Fatal(err)
	}
}

// onlyWeak skips a test where sums are whole.
func onlyWeak(t *testing.T) {
	t.Helper()
	if x := digest.Of("abc"); x != (api.Sum{x[0]}) {
		t.Skip("its sums are whole")
	}
}

// any16 is one of the sums that there are.
func any16(r *rand.Rand) api.Sum {
	return api.Sum{byte(r.Intn(16))}
}

// some is sums of which each is, now and then, another one, and now and then they are more, or fewer.
func some(r *rand.Rand, sums []api.Sum) []api.Sum {
	l := slices.Clone(sums)
	for k := range l {
		if r.Intn(2) == 0 {
			l[k] = any16(r)
		}
	}
	switch {
	case r.Intn(20) == 0:
		l = append(l, any16(r))
	case r.Intn(20) == 0 && len(l) > 0:
		l = l[1:]
	}
	return l
}

// firstUnlike is the place of the first of two lists' texts that are unlike; -1: there is none.
func firstUnlike(a, b []string) int {
	for i := range a {
		if a[i] != b[i] {
			return i
		}
	}
	return -1
}

// tally is how often something came out.
type tally struct {
	found, deep int // deep: not at the root
	same, other int // false though it proves; false, for it doesn't
}

// enough looks whether a test has met all that it is to meet.
func (c tally) enough(t *testing.T) {
	t.Helper()
	if c.found < 500 || c.deep < 100 || c.same < 100 || c.other < 500 {
		t.Errorf("too little is looked at: %+v", c)
	}
}

// holds looks at one answer of Leaves, or Prefix; a and b are the texts by which the proofs reckon.
func (c *tally) holds(t *testing.T, got clash.Pair, ok, proved, alike bool, a, b []string) {
	t.Helper()
	switch {
	case !proved:
		c.other++
		noPair(t, "what proves nothing", got, ok)
	case alike:
		c.same++
		noPair(t, "what is as it should be", got, ok)
	default:
		at := firstUnlike(a, b)
		if !ok || !got.Is() || at < 0 || got != (clash.Pair{A: a[at], B: b[at]}) {
			t.Fatalf("%q, %v, Is %v, unlike at %d of %q, %q", got, ok, got.Is(), at, a, b)
		}
		c.found++
		if at > 0 {
			c.deep++
		}
	}
}

// P11.1: Is, of unlike texts of one sum.
func TestWeakIs(t *testing.T) {
	onlyWeak(t)
	found := 0
	for i := range 100 {
		for j := range 100 {
			p := clash.Pair{A: strconv.Itoa(i), B: strconv.Itoa(j)}
			want := i != j && digest.Of(p.A) == digest.Of(p.B)
			if p.Is() != want {
				t.Errorf("%q: %v", p, p.Is())
			}
			if want {
				found++
			}
		}
	}
	if found < 100 {
		t.Errorf("only %d", found)
	}
}

// P11.2, P11.3: Leaves finds the first unlike texts of one sum, whenever both leaves are proved, and unlike.
func TestWeakLeaves(t *testing.T) {
	onlyWeak(t)
	r := rand.New(rand.NewSource(3))
	var c tally
	for range 100000 {
		n := 1 + r.Intn(9)
		l := names(n)
		i, h := r.Intn(n), head(l)
		right := included(i, l)
		p, q := some(r, right), some(r, right)
		a, b := "leaf "+strconv.Itoa(i+r.Intn(3)), "leaf "+strconv.Itoa(i+r.Intn(20))
		if r.Intn(2) == 0 {
			a, p = l[i], right
		}
		if r.Intn(4) == 0 {
			b = a
		}
		proved := proof.Inclusion(a, i, h, p...) == nil && proof.Inclusion(b, i, h, q...) == nil
		got, ok := clash.Leaves(i, h, a, p, b, q)
		var one, other []string
		if proved {
			one, other = wayOf(a, i, n, p), wayOf(b, i, n, q)
		}
		c.holds(t, got, ok, proved, a == b, one, other)
	}
	c.enough(t)
}

// P11.2, P11.3: Prefix finds the first unlike texts of one sum, whenever the claim is proved, and isn't the root.
func TestWeakPrefix(t *testing.T) {
	onlyWeak(t)
	r := rand.New(rand.NewSource(4))
	var c tally
	for range 300000 {
		n := r.Intn(10)
		l := names(n)
		m := r.Intn(n + 1)
		right, claim := extended(m, l), any16(r)
		sums := some(r, right)
		if r.Intn(4) == 0 {
			claim, sums = rootOver(l[:m]), right
		}
		proved := proof.Consistency(proof.Head{N: m, Root: claim}, head(l), sums...) == nil
		got, ok := clash.Prefix(m, claim, l, sums)
		var a, b []string
		if proved && m > 0 {
			sides, _ := sidesOf(m, claim, l, true, sums)
			for _, p := range sides {
				a, b = append(a, p.A), append(b, p.B)
			}
		}
		c.holds(t, got, ok, proved, claim == rootOver(l[:m]), a, b)
	}
	c.enough(t)
}
