package wire_test

import (
	"encoding/hex"
	"math"
	"math/rand"
	"slices"
	"strings"
	"testing"

	"hindsight/api"
	"hindsight/wire"
)

var (
	ones = strings.Repeat("\xff", 8)
	nils = strings.Repeat("\x80", 8)
)

func num(n uint64) string {
	return new(wire.Writer).Num(n).Text()
}

// sumOf is 32 bytes, the first of which is x.
func sumOf(x byte) api.Sum {
	s := api.Sum{x}
	for i := 1; i < len(s); i++ {
		s[i] = s[i-1]*7 + 3
	}
	return s
}

// P2.1: what the Writer's calls put.
func TestWriter(t *testing.T) {
	a, b := sumOf(1), sumOf(2)
	for _, x := range []struct {
		name string
		put  func(w *wire.Writer) *wire.Writer
		want string
	}{
		{"Num 0", func(w *wire.Writer) *wire.Writer { return w.Num(0) }, "\x00"},
		{"Num 1", func(w *wire.Writer) *wire.Writer { return w.Num(1) }, "\x01"},
		{"Num 127", func(w *wire.Writer) *wire.Writer { return w.Num(127) }, "\x7f"},
		{"Num 128", func(w *wire.Writer) *wire.Writer { return w.Num(128) }, "\x81\x00"},
		{"Num 300", func(w *wire.Writer) *wire.Writer { return w.Num(300) }, "\x82\x2c"},
		{"Num 2^14-1", func(w *wire.Writer) *wire.Writer { return w.Num(1<<14 - 1) }, "\xff\x7f"},
		{"Num 2^14", func(w *wire.Writer) *wire.Writer { return w.Num(1 << 14) }, "\x81\x80\x00"},
		{"Num 2^56", func(w *wire.Writer) *wire.Writer { return w.Num(1 << 56) }, "\x81" + nils[1:] + "\x00"},
		{"Num 2^63-1", func(w *wire.Writer) *wire.Writer { return w.Num(1<<63 - 1) }, ones + "\x7f"},
		{"Num 2^63", func(w *wire.Writer) *wire.Writer { return w.Num(1 << 63) }, "\x81" + nils + "\x00"},
		{"Num 2^64-1", func(w *wire.Writer) *wire.Writer { return w.Num(math.MaxUint64) }, "\x81" + ones + "\x7f"},
		{"Int 0", func(w *wire.Writer) *wire.Writer { return w.Int(0) }, "\x00"},
		{"Int -1", func(w *wire.Writer) *wire.Writer { return w.Int(-1) }, "\x01"},
		{"Int 1", func(w *wire.Writer) *wire.Writer { return w.Int(1) }, "\x02"},
		{"Int -64", func(w *wire.Writer) *wire.Writer { return w.Int(-64) }, "\x7f"},
		{"Int 64", func(w *wire.Writer) *wire.Writer { return w.Int(64) }, "\x81\x00"},
		{"Int -65", func(w *wire.Writer) *wire.Writer { return w.Int(-65) }, "\x81\x01"},
		{"Int greatest", func(w *wire.Writer) *wire.Writer { return w.Int(math.MaxInt) }, "\x81" + ones + "\x7e"},
		{"Int least", func(w *wire.Writer) *wire.Writer { return w.Int(math.MinInt) }, "\x81" + ones + "\x7f"},
		{"Str empty", func(w *wire.Writer) *wire.Writer { return w.Str("") }, "\x00"},
		{"Str", func(w *wire.Writer) *wire.Writer { return w.Str("a\x00\xff") }, "\x03a\x00\xff"},
		{"Str of 128", func(w *wire.Writer) *wire.Writer { return w.Str(strings.Repeat("x", 128)) }, "\x81\x00" + strings.Repeat("x", 128)},
		{"Sum", func(w *wire.Writer) *wire.Writer { return w.Sum(a) }, string(a[:])},
		{"Sums none", func(w *wire.Writer) *wire.Writer { return w.Sums() }, "\x00"},
		{"Sums nil", func(w *wire.Writer) *wire.Writer { return w.Sums(nil...) }, "\x00"},
		{"Sums", func(w *wire.Writer) *wire.Writer { return w.Sums(a, b) }, "\x02" + string(a[:]) + string(b[:])},
	} {
		var w wire.Writer
		if got := w.Text(); got != "" {
			t.Errorf("%s: the zero Writer has %x", x.name, got)
		}
		if x.put(&w) != &w {
			t.Errorf("%s: it answers another Writer", x.name)
		}
		first := w.Text()
		if first != x.want {
			t.Errorf("%s: %x, want %x", x.name, first, x.want)
		}
		x.put(&w)
		if first != x.want || w.Text() != x.want+x.want || w.Text() != x.want+x.want {
			t.Errorf("%s: twice: %x", x.name, w.Text())
		}
	}
}

// P2.1, K3: a list of sums is neither changed nor kept.
func TestWriterKeepsNoList(t *testing.T) {
	var w wire.Writer
	l := []api.Sum{sumOf(1), sumOf(2)}
	w.Sums(l...)
	if !slices.Equal(l, []api.Sum{sumOf(1), sumOf(2)}) {
		t.Error("Sums changes its list")
	}
	before := w.Text()
	l[0] = api.Sum{}
	if w.Text() != before {
		t.Error("Sums keeps its list")
	}
}

// readings are the calls that take, each with an answer of whether what it took is zero.
var readings = []struct {
	name string
	take func(r *wire.Reader) bool
}{
	{"Num", func(r *wire.Reader) bool { return r.Num() == 0 }},
	{"Int", func(r *wire.Reader) bool { return r.Int() == 0 }},
	{"Upto", func(r *wire.Reader) bool { return r.Upto(math.MaxInt) == 0 }},
	{"Str", func(r *wire.Reader) bool { return r.Str(math.MaxInt) == "" }},
	{"Sum", func(r *wire.Reader) bool { return r.Sum() == api.Sum{} }},
	{"Sums", func(r *wire.Reader) bool { return len(r.Sums(math.MaxInt)) == 0 }},
}

// failed looks whether an error stays, whatever comes then.
func failed(t *testing.T, name string, r *wire.Reader, want api.Errno) {
	t.Helper()
	if got := r.Err(); got != want {
		t.Errorf("%s: %v, want %v", name, got, want)
		return
	}
	for _, x := range readings {
		if !x.take(r) {
			t.Errorf("%s: something is left for %s", name, x.name)
		}
	}
	r.Fail(api.ErrBusy)
	if r.Err() != want || r.End() != want || r.Err() != want {
		t.Errorf("%s: %v doesn't stay: %v", name, want, r.Err())
	}
}

// P2.1: wrong numbers, for each call that begins with one.
func TestWrongNumbers(t *testing.T) {
	for _, x := range []struct {
		s    string
		want api.Errno
	}{
		{"", api.ErrEnd},
		{"\x81", api.ErrEnd},
		{"\xff\xff", api.ErrEnd},
		{"\x81" + nils, api.ErrEnd},
		{"\x82" + nils, api.ErrEnd}, // no byte shows yet that has too many bits
		{"\x80", api.ErrForm},
		{"\x80\x00", api.ErrForm},
		{"\x80\x05", api.ErrForm},
		{"\x80\x80\x80\x05", api.ErrForm},
		{"\x82" + nils + "\x00", api.ErrForm},
		{"\x83" + ones + "\x7f", api.ErrForm},
		{"\x84" + nils + "\x00", api.ErrForm},
		{"\xff" + ones + "\xff", api.ErrForm},
		{"\x81" + ones + "\xff\x00", api.ErrForm},
		{ones + ones + ones, api.ErrForm},
	} {
		for _, y := range readings {
			if y.name == "Sum" {
				continue
			}
			r := wire.Read(x.s)
			if !y.take(r) {
				t.Errorf("%s of %x: it isn't zero", y.name, x.s)
			}
			failed(t, y.name+" of "+hex.EncodeToString([]byte(x.s)), r, x.want)
		}
	}
}

// P2.1: Upto, at its edge and above it.
func TestUpto(t *testing.T) {
	for _, x := range []struct {
		n    uint64
		most int
		want api.Errno
	}{
		{0, 0, api.OK}, {0, -1, api.OK}, {0, math.MinInt, api.OK}, {5, 5, api.OK}, {5, math.MaxInt, api.OK},
		{math.MaxInt, math.MaxInt, api.OK},
		{1, 0, api.ErrBig}, {1, -1, api.ErrBig}, {1, math.MinInt, api.ErrBig}, {6, 5, api.ErrBig},
		{math.MaxInt + 1, math.MaxInt, api.ErrBig}, {math.MaxUint64, math.MaxInt, api.ErrBig},
		{math.MaxUint64, -1, api.ErrBig},
	} {
		r := wire.Read(num(x.n) + "z")
		got := r.Upto(x.most)
		if x.want != api.OK {
			if got != 0 {
				t.Errorf("Upto(%d) of %d: %d", x.most, x.n, got)
			}
			failed(t, "Upto", r, x.want)
		} else if uint64(got) != x.n || r.Err() != api.OK || r.Num() != 'z' || r.End() != api.OK {
			t.Errorf("Upto(%d) of %d: %d, %v", x.most, x.n, got, r.Err())
		}
	}
}

// P2.1: Str, Sum, Sums: too many, too few bytes; what the chapter names first goes first.
func TestTooManyAndTooFew(t *testing.T) {
	sum := strings.Repeat("s", 32)
	for _, x := range []struct {
		name, s string
		take    func(r *wire.Reader) bool
		want    api.Errno
	}{
		{"Str above", "\x03abc", func(r *wire.Reader) bool { return r.Str(2) == "" }, api.ErrBig},
		{"Str above, and few", "\x03ab", func(r *wire.Reader) bool { return r.Str(2) == "" }, api.ErrBig},
		{"Str below 0", "\x01a", func(r *wire.Reader) bool { return r.Str(-5) == "" }, api.ErrBig},
		{"Str few", "\x03ab", func(r *wire.Reader) bool { return r.Str(3) == "" }, api.ErrEnd},
		{"Str none", "\x01", func(r *wire.Reader) bool { return r.Str(1) == "" }, api.ErrEnd},
		{"Str far too few", num(math.MaxInt) + "abc", func(r *wire.Reader) bool { return r.Str(math.MaxInt) == "" }, api.ErrEnd},
		{"Sum none", "", func(r *wire.Reader) bool { return r.Sum() == api.Sum{} }, api.ErrEnd},
		{"Sum few", sum[1:], func(r *wire.Reader) bool { return r.Sum() == api.Sum{} }, api.ErrEnd},
		{"Sums above", "\x02" + sum + sum, func(r *wire.Reader) bool { return len(r.Sums(1)) == 0 }, api.ErrBig},
		{"Sums above, and few", "\x02" + sum, func(r *wire.Reader) bool { return len(r.Sums(1)) == 0 }, api.ErrBig},
		{"Sums below 0", "\x01" + sum, func(r *wire.Reader) bool { return len(r.Sums(-1)) == 0 }, api.ErrBig},
		{"Sums few", "\x02" + sum + sum[1:], func(r *wire.Reader) bool { return len(r.Sums(2)) == 0 }, api.ErrEnd},
		{"Sums none", "\x01", func(r *wire.Reader) bool { return len(r.Sums(1)) == 0 }, api.ErrEnd},
		{"Sums far too few", num(math.MaxInt) + sum, func(r *wire.Reader) bool { return len(r.Sums(math.MaxInt)) == 0 }, api.ErrEnd},
		{"Sums too few by 2^59", num(1<<59) + sum, func(r *wire.Reader) bool { return len(r.Sums(math.MaxInt)) == 0 }, api.ErrEnd},
	} {
		r := wire.Read(x.s)
		if !x.take(r) {
			t.Errorf("%s: it isn't zero", x.name)
		}
		failed(t, x.name, r, x.want)
	}
}

// P2.1: what is as much as may be is taken, and nothing behind it.
func TestAsMuchAsMayBe(t *testing.T) {
	a, b := sumOf(1), sumOf(2)
	r := wire.Read("\x03abc" + "\x00" + string(a[:]) + "\x02" + string(a[:]) + string(b[:]) + "\x00" + "\x01")
	if s := r.Str(3); s != "abc" {
		t.Errorf("Str: %q", s)
	}
	if s := r.Str(-1); s != "" {
		t.Errorf("Str of nothing: %q", s)
	}
	if x := r.Sum(); x != a {
		t.Errorf("Sum: %x", x)
	}
	if l := r.Sums(2); !slices.Equal(l, []api.Sum{a, b}) {
		t.Errorf("Sums: %x", l)
	}
	if l := r.Sums(-1); len(l) != 0 {
		t.Errorf("Sums of none: %x", l)
	}
	if n := r.Int(); n != -1 || r.Err() != api.OK || r.End() != api.OK || r.Err() != api.OK {
		t.Errorf("Int: %d, %v", n, r.Err())
	}
}

// P2.1: the last bytes of all are taken too.
func TestUpToTheEnd(t *testing.T) {
	a := sumOf(1)
	r := wire.Read("\x02ab")
	if s := r.Str(2); s != "ab" || r.Err() != api.OK || r.End() != api.OK {
		t.Errorf("Str: %q, %v", s, r.Err())
	}
	r = wire.Read("\x00")
	if s := r.Str(0); s != "" || r.Err() != api.OK || r.End() != api.OK {
		t.Errorf("Str of nothing: %q, %v", s, r.Err())
	}
	r = wire.Read(string(a[:]))
	if x := r.Sum(); x != a || r.Err() != api.OK || r.End() != api.OK {
		t.Errorf("Sum: %x, %v", x, r.Err())
	}
	r = wire.Read("\x01" + string(a[:]))
	if l := r.Sums(1); !slices.Equal(l, []api.Sum{a}) || r.End() != api.OK {
		t.Errorf("Sums: %x, %v", l, r.Err())
	}
}

// P2.1: End.
func TestEnd(t *testing.T) {
	if wire.Read("").End() != api.OK {
		t.Error("nothing is left of nothing")
	}
	r := wire.Read("\x05\x06")
	if r.Err() != api.OK || r.Num() != 5 || r.End() != api.ErrForm {
		t.Errorf("End: %v", r.Err())
	}
	failed(t, "End", r, api.ErrForm)
	r = wire.Read("\x81")
	r.Num()
	if r.End() != api.ErrEnd {
		t.Errorf("End behind an error: %v", r.Err())
	}
}

// P2.1: Fail.
func TestFail(t *testing.T) {
	for _, e := range []api.Errno{api.ErrEnd, api.ErrBusy, 99, -1} {
		r := wire.Read("\x05\x06")
		r.Fail(e)
		failed(t, "Fail", r, e)
	}
	r := wire.Read("\x05\x06")
	r.Fail(api.OK)
	if r.Err() != api.OK || r.End() != api.OK || r.Num() != 0 || r.Err() != api.ErrEnd {
		t.Errorf("behind Fail(OK): %v", r.Err())
	}
}

// P2.1, K3: what was answered isn't changed by what comes then, and each Reader has a place of its own.
func TestReaderSharesNothing(t *testing.T) {
	a, b := sumOf(1), sumOf(2)
	s := new(wire.Writer).Sums(a).Sums(b).Text()
	r, other := wire.Read(s), wire.Read(s)
	l := r.Sums(1)
	r.Sums(1)
	if l[0] != a {
		t.Errorf("Sums changes an elder answer: %x", l)
	}
	l[0] = b
	if m := other.Sums(1); len(m) != 1 || m[0] != a {
		t.Errorf("Readers share: %x", m)
	}
}

// edges are numbers about the powers of 2.
func edges() []uint64 {
	l := []uint64{0}
	for i := range 64 {
		n := uint64(1) << i
		l = append(l, n-1, n, n+1, ^n, -n)
	}
	return l
}

// P2.2: numbers there and back, in as few bytes as say them; less bytes say none.
func TestNumbersThereAndBack(t *testing.T) {
	for _, n := range edges() {
		s := num(n)
		size := 1
		for m := n >> 7; m > 0; m >>= 7 {
			size++
		}
		r := wire.Read(s)
		if got := r.Num(); got != n || r.End() != api.OK || len(s) != size {
			t.Errorf("%d: %d, %v, in %x", n, got, r.Err(), s)
		}
		for i := range len(s) {
			r := wire.Read(s[:i])
			if r.Num() != 0 || r.Err() != api.ErrEnd {
				t.Errorf("%d bytes of %d: %v", i, n, r.Err())
			}
		}
		i := int(n)
		r = wire.Read(new(wire.Writer).Int(i).Text())
		if got := r.Int(); got != i || r.End() != api.OK {
			t.Errorf("Int %d: %d, %v", i, got, r.Err())
		}
	}
}

// oneSpelling looks whether what is read of bytes is written with the same bytes.
func oneSpelling(t *testing.T, s string) {
	t.Helper()
	r := wire.Read(s)
	if n := r.Num(); r.Err() == api.OK && !strings.HasPrefix(s, num(n)) {
		t.Errorf("%x: %d, which is %x", s, n, num(n))
	}
	r = wire.Read(s)
	if n := r.Int(); r.Err() == api.OK && !strings.HasPrefix(s, new(wire.Writer).Int(n).Text()) {
		t.Errorf("%x: Int %d", s, n)
	}
}

// P2.2: a number has one spelling.
func TestOneSpelling(t *testing.T) {
	oneSpelling(t, "")
	for i := range 1 << 8 {
		oneSpelling(t, string([]byte{byte(i)}))
	}
	for i := range 1 << 16 {
		oneSpelling(t, string([]byte{byte(i >> 8), byte(i)}))
	}
	r := rand.New(rand.NewSource(2))
	for range 100000 {
		b := make([]byte, 12)
		r.Read(b)
		for i := range r.Intn(len(b)) {
			b[i] |= 0x80
		}
		if r.Intn(2) == 0 {
			b[0] = 0x80 | b[0]&3
		}
		oneSpelling(t, string(b))
	}
}

// P2.2: things of all kinds, there and back, one behind the other.
func TestAllThereAndBack(t *testing.T) {
	rnd := rand.New(rand.NewSource(3))
	for range 500 {
		n, i := rnd.Uint64()>>rnd.Intn(64), int(rnd.Uint64())>>rnd.Intn(64)
		b := make([]byte, rnd.Intn(300))
		rnd.Read(b)
		l := make([]api.Sum, rnd.Intn(4))
		for k := range l {
			rnd.Read(l[k][:])
		}
		x := sumOf(byte(n))
		s := new(wire.Writer).Num(n).Int(i).Str(string(b)).Sum(x).Sums(l...).Int(-i).Text()
		r := wire.Read(s)
		if r.Num() != n || r.Int() != i || r.Str(len(b)) != string(b) || r.Sum() != x || !slices.Equal(r.Sums(len(l)), l) || r.Int() != -i || r.End() != api.OK {
			t.Errorf("%x: %v", s, r.Err())
		}
		for k := range len(s) {
			r := wire.Read(s[:k])
			r.Num()
			r.Int()
			r.Str(len(b))
			r.Sum()
			r.Sums(len(l))
			r.Int()
			if r.End() != api.ErrEnd {
				t.Errorf("the first %d bytes of %x: %v", k, s, r.Err())
			}
		}
	}
}
