package digest_test

import (
	"crypto/sha256"
	"encoding/hex"
	"math/rand"
	"strings"
	"testing"

	"hindsight/api"
	"hindsight/digest"
)

// anyBytes is n bytes, of all values, the same at each call.
func anyBytes(n int) string {
	b := make([]byte, n)
	rand.New(rand.NewSource(int64(n) + 1)).Read(b)
	return string(b)
}

// asLibrary is what another SHA-256 makes of bytes.
func asLibrary(s string) api.Sum {
	return api.Sum(sha256.Sum256([]byte(s)))
}

// P1.1: Of, on what FIPS 180-4 and its examples say.
func TestOfKnown(t *testing.T) {
	for _, x := range []struct{ s, want string }{
		{"", "e3b0c44298fc1c149afbf4c8996fb92427ae41e4649b934ca495991b7852b855"},
		{"abc", "ba7816bf8f01cfea414140de5dae2223b00361a396177a9cb410ff61f20015ad"},
		{"abcdbcdecdefdefgefghfghighijhijkijkljklmklmnlmnomnopnopq",
			"248d6a61d20638b8e5c026930c3e6039a33ce45964ff2167f6ecedd419db06c1"},
		{"abcdefghbcdefghicdefghijdefghijkefghijklfghijklmghijklmnhijklmnoijklmnopjklmnopqklmnopqrlmnopqrsmnopqrstnopqrstu",
			"cf5b16a778af8380036ce59e7b0492370b249b11e8f07a51afac45037afee9d1"},
		{strings.Repeat("a", 1000000), "cdc76e5c9914fb9281a1c7e284d73e67f1809a48a497200e046d39ccc7112cd0"},
		{"\xbd", "68325720aabd7c82f30f554b313d0570c95accbb7dc4b5aae11204c08ffe732b"},
	} {
		if got := digest.Hex(digest.Of(x.s)); got != x.want {
			t.Errorf("Of(%d bytes): %s, want %s", len(x.s), got, x.want)
		}
	}
}

// P1.1: Of, at each length around the ends of blocks.
func TestOfEachLength(t *testing.T) {
	for n := range 300 {
		for _, s := range []string{anyBytes(n), strings.Repeat("\x00", n), strings.Repeat("\x80", n)} {
			if digest.Of(s) != asLibrary(s) {
				t.Errorf("Of(%d bytes, %.2x...)", n, s)
			}
		}
	}
}

// P1.1: the number of bits is told in eight bytes, not in four.
func TestOfLong(t *testing.T) {
	if testing.Short() {
		t.Skip("takes seconds")
	}
	part := anyBytes(1 << 20)
	h, other := digest.New(), sha256.New()
	for range 512 {
		h.Add(part)
		other.Write([]byte(part))
	}
	h.Add("x")
	other.Write([]byte("x"))
	if h.Sum() != api.Sum(other.Sum(nil)) {
		t.Error("Sum of 2^29 + 1 bytes")
	}
}

// P1.1: Leaf and Node.
func TestLeafAndNode(t *testing.T) {
	for n := range 140 {
		if s := anyBytes(n); digest.Leaf(s) != asLibrary("\x00"+s) {
			t.Errorf("Leaf(%d bytes)", n)
		}
	}
	a, b := digest.Of("a"), digest.Of("b")
	for _, x := range [][2]api.Sum{{a, b}, {b, a}, {a, a}, {{}, b}, {a, {}}, {}} {
		if digest.Node(x[0], x[1]) != asLibrary("\x01"+string(x[0][:])+string(x[1][:])) {
			t.Errorf("Node(%x, %x)", x[0], x[1])
		}
	}
	if digest.Node(a, b) == digest.Node(b, a) {
		t.Error("Node doesn't tell the left one from the right one")
	}
	if digest.Leaf(string(a[:])+string(b[:])) == digest.Node(a, b) {
		t.Error("Node is a Leaf")
	}
}

// P1.1: Hex.
func TestHex(t *testing.T) {
	if got := digest.Hex(api.Sum{}); got != strings.Repeat("0", 64) {
		t.Errorf("Hex of zeros: %s", got)
	}
	for from := 0; from < 256; from += len(api.Sum{}) {
		var sum api.Sum
		for i := range sum {
			sum[i] = byte(from + i)
		}
		if got, want := digest.Hex(sum), hex.EncodeToString(sum[:]); got != want {
			t.Errorf("Hex: %s, want %s", got, want)
		}
	}
}

// P1.1: a New one is the sum of nothing, and each has bytes of its own.
func TestNew(t *testing.T) {
	h, other := digest.New(), digest.New()
	h.Add("abc")
	if other.Sum() != digest.Of("") || digest.New().Sum() != digest.Of("") {
		t.Error("New isn't of nothing")
	}
	other.Add("d")
	if h.Sum() != digest.Of("abc") || other.Sum() != digest.Of("d") {
		t.Error("one Hash changes another")
	}
}

// P1.2: two parts, cut at each place, and one byte at a time.
func TestPartsOfTwo(t *testing.T) {
	s := anyBytes(200)
	want := asLibrary(s)
	for i := range len(s) + 1 {
		h := digest.New()
		h.Add(s[:i])
		h.Add(s[i:])
		if h.Sum() != want {
			t.Errorf("cut at %d", i)
		}
	}
	h := digest.New()
	for i := range len(s) {
		h.Add(s[i : i+1])
		h.Add("")
	}
	if h.Sum() != want {
		t.Error("byte by byte")
	}
}

// P1.2: more may come behind a Sum, which changes nothing.
func TestSumBetween(t *testing.T) {
	s := anyBytes(300)
	h := digest.New()
	for i := range len(s) + 1 {
		want := asLibrary(s[:i])
		if h.Sum() != want || h.Sum() != want {
			t.Fatalf("Sum of the first %d bytes", i)
		}
		h.Add(s[i:min(i+1, len(s))])
	}
}

// P1.2: parts of all sizes, whole blocks and more than these among them.
func TestPartsOfAnySize(t *testing.T) {
	r := rand.New(rand.NewSource(1))
	for range 300 {
		s := anyBytes(r.Intn(2000))
		h := digest.New()
		for left := s; left != ""; {
			n := min(len(left), []int{0, 1, 55, 63, 64, 65, 128, r.Intn(400)}[r.Intn(8)])
			h.Add(left[:n])
			left = left[n:]
		}
		if h.Sum() != asLibrary(s) {
			t.Errorf("parts of %d bytes", len(s))
		}
	}
}
