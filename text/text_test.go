package text_test

import (
	"math"
	"math/rand"
	"strings"
	"testing"

	"hindsight/api"
	"hindsight/text"
	"hindsight/wire"
)

func insert(at int, s string) text.Op {
	return text.Op{Kind: text.Insert, At: at, S: s}
}

func cut(at, n int) text.Op {
	return text.Op{Kind: text.Delete, At: at, N: n}
}

// xs is n bytes.
func xs(n int) string {
	return strings.Repeat("x", n)
}

// saved is the bytes of a document of this text.
func saved(s string) string {
	return new(wire.Writer).Str(s).Text()
}

// load is a document of this text.
func load(t *testing.T, s string) *text.Doc {
	t.Helper()
	d, e := text.Load(saved(s))
	if e != api.OK || d == nil || d.Text() != s {
		t.Fatalf("Load of %d bytes: %v", len(s), e)
	}
	return d
}

// checks are ops, and whether they may be.
var checks = []struct {
	name string
	op   text.Op
	want api.Errno
}{
	{"insert 1 byte", insert(0, "x"), api.OK},
	{"insert 40 bytes", insert(0, xs(40)), api.OK},
	{"insert at 200", insert(200, "x"), api.OK},
	{"insert any bytes", insert(7, "\x00\xff\x80"), api.OK},
	{"insert nothing", insert(0, ""), api.ErrArg},
	{"insert 41 bytes", insert(0, xs(41)), api.ErrArg},
	{"insert very many", insert(0, xs(1<<20)), api.ErrArg},
	{"insert ahead", insert(-1, "x"), api.ErrArg},
	{"insert at 201", insert(201, "x"), api.ErrArg},
	{"insert at the least", insert(math.MinInt, "x"), api.ErrArg},
	{"insert at the greatest", insert(math.MaxInt, "x"), api.ErrArg},
	{"insert with N", text.Op{Kind: text.Insert, S: "x", N: 1}, api.ErrArg},
	{"insert with N below 0", text.Op{Kind: text.Insert, S: "x", N: -1}, api.ErrArg},
	{"insert with N alone", text.Op{Kind: text.Insert, N: 1}, api.ErrArg},
	{"delete 1", cut(0, 1), api.OK},
	{"delete 40", cut(0, 40), api.OK},
	{"delete at 200", cut(200, 1), api.OK},
	{"delete none", cut(0, 0), api.ErrArg},
	{"delete 41", cut(0, 41), api.ErrArg},
	{"delete fewer than none", cut(0, -1), api.ErrArg},
	{"delete the greatest", cut(0, math.MaxInt), api.ErrArg},
	{"delete the least", cut(0, math.MinInt), api.ErrArg},
	{"delete ahead", cut(-1, 1), api.ErrArg},
	{"delete at 201", cut(201, 1), api.ErrArg},
	{"delete with S", text.Op{Kind: text.Delete, S: "x", N: 1}, api.ErrArg},
	{"delete with S alone", text.Op{Kind: text.Delete, S: "x"}, api.ErrArg},
	{"the zero op", text.Op{}, api.ErrKind},
	{"kind 0, else right", text.Op{S: "x"}, api.ErrKind},
	{"kind 3, else right", text.Op{Kind: 3, N: 1}, api.ErrKind},
	{"kind below 0", text.Op{Kind: -1, S: "x"}, api.ErrKind},
	{"kind and place", text.Op{Kind: 3, At: -1}, api.ErrKind},
}

// P5.1: whether an op may be.
func TestCheck(t *testing.T) {
	for _, x := range checks {
		if got := x.op.Check(); got != x.want {
			t.Errorf("%s: %v, want %v", x.name, got, x.want)
		}
	}
}

// P5.1: what may not be isn't done: Check's error comes ahead of all others.
func TestDoChecks(t *testing.T) {
	for _, x := range checks {
		for _, s := range []string{"", "abc", xs(200)} {
			d := load(t, s)
			gone, e := d.Do(x.op)
			if x.want != api.OK && (gone != "" || e != x.want || d.Text() != s) {
				t.Errorf("%s, of %d bytes: %q, %v, and %d bytes are there", x.name, len(s), gone, e, len(d.Text()))
			}
		}
	}
}

// P5.1: a new document is empty, and its own.
func TestNew(t *testing.T) {
	a, b := text.New(), text.New()
	if a.Text() != "" || a.Save() != "\x00" {
		t.Errorf("new: %q, %x", a.Text(), a.Save())
	}
	a.Do(insert(0, "a"))
	if a.Text() != "a" || b.Text() != "" || text.New().Text() != "" {
		t.Errorf("one of two: %q, %q", a.Text(), b.Text())
	}
}

// P5.1: what comes in, and what goes.
func TestDo(t *testing.T) {
	for _, x := range []struct {
		name, s string
		op      text.Op
		then    string
		gone    string
		want    api.Errno
	}{
		{"insert into nothing", "", insert(0, "ab"), "ab", "", api.OK},
		{"insert at the front", "ab", insert(0, "c"), "cab", "", api.OK},
		{"insert within", "ab", insert(1, "\xff\x00"), "a\xff\x00b", "", api.OK},
		{"insert at the end", "ab", insert(2, "c"), "abc", "", api.OK},
		{"insert behind the end", "ab", insert(3, "c"), "ab", "", api.ErrRange},
		{"insert behind nothing", "", insert(1, "c"), "", "", api.ErrRange},
		{"insert far behind", "ab", insert(200, "c"), "ab", "", api.ErrRange},
		{"insert up to 200", xs(160), insert(160, xs(40)), xs(200), "", api.OK},
		{"insert up to 201", xs(161), insert(161, xs(40)), xs(161), "", api.ErrFull},
		{"insert one more than 200", xs(200), insert(0, "y"), xs(200), "", api.ErrFull},
		{"insert at 200", xs(200), insert(200, "y"), xs(200), "", api.ErrFull},
		{"insert behind the end, and too much", xs(199), insert(200, "yy"), xs(199), "", api.ErrRange},
		{"insert the last byte", xs(199), insert(0, "y"), "y" + xs(199), "", api.OK},
		{"delete at the front", "abc", cut(0, 1), "bc", "a", api.OK},
		{"delete within", "abc", cut(1, 1), "ac", "b", api.OK},
		{"delete at the end", "abc", cut(1, 2), "a", "bc", api.OK},
		{"delete all", "abc", cut(0, 3), "", "abc", api.OK},
		{"delete bytes of a rune", "a\xc3\xa4b", cut(2, 1), "a\xc3b", "\xa4", api.OK},
		{"delete one more", "abc", cut(0, 4), "abc", "", api.ErrRange},
		{"delete over the end", "abc", cut(2, 2), "abc", "", api.ErrRange},
		{"delete at the end's place", "abc", cut(3, 1), "abc", "", api.ErrRange},
		{"delete behind the end", "abc", cut(4, 1), "abc", "", api.ErrRange},
		{"delete of nothing", "", cut(0, 1), "", "", api.ErrRange},
		{"delete 40 of 200", xs(160) + strings.Repeat("y", 40), cut(160, 40), xs(160), strings.Repeat("y", 40), api.OK},
		{"delete over 200", xs(200), cut(161, 40), xs(200), "", api.ErrRange},
		{"delete at 200", xs(200), cut(200, 1), xs(200), "", api.ErrRange},
	} {
		d := load(t, x.s)
		gone, e := d.Do(x.op)
		if gone != x.gone || e != x.want || d.Text() != x.then {
			t.Errorf("%s: %q, %v, and %q is there", x.name, gone, e, d.Text())
		}
	}
}

// P5.1: examples of the whole and of the chapter.
func TestExamples(t *testing.T) {
	d := text.New()
	d.Do(insert(0, "ab"))
	d.Do(insert(0, "c"))
	if d.Text() != "cab" {
		t.Errorf("ab, c: %q", d.Text())
	}
	d = load(t, "abc")
	o := cut(1, 1)
	gone, e := d.Do(o)
	if gone != "b" || e != api.OK || o.Inverse(gone) != insert(1, "b") {
		t.Errorf("Delete 1 1: %q, %v, %+v", gone, e, o.Inverse(gone))
	}
}

// P5.1: the op that takes back another one, whether that may be or not.
func TestInverse(t *testing.T) {
	for _, x := range []struct {
		name string
		op   text.Op
		gone string
		want text.Op
	}{
		{"insert", insert(3, "abc"), "", cut(3, 3)},
		{"insert, whatever went", insert(3, "abc"), "zz", cut(3, 3)},
		{"insert nothing", insert(3, ""), "zz", cut(3, 0)},
		{"insert too much, ahead", insert(-5, xs(500)), "", cut(-5, 500)},
		{"insert with N", text.Op{Kind: text.Insert, At: 1, S: "ab", N: 7}, "", cut(1, 2)},
		{"delete", cut(3, 2), "ab", insert(3, "ab")},
		{"delete, other bytes went", cut(3, 2), "abcd", insert(3, "abcd")},
		{"delete, none went", cut(3, 2), "", insert(3, "")},
		{"delete with S", text.Op{Kind: text.Delete, At: 1, S: "ab", N: 7}, "c", insert(1, "c")},
	} {
		if got := x.op.Inverse(x.gone); got != x.want {
			t.Errorf("%s: %+v", x.name, got)
		}
	}
}

// P5.1: an op's bytes, whether it may be or not.
func TestPut(t *testing.T) {
	for _, x := range []struct {
		name string
		op   text.Op
		want string
	}{
		{"insert", insert(3, "ab"), "\x01\x03\x02ab"},
		{"insert at 200", insert(200, "\x00"), "\x01\x81\x48\x01\x00"},
		{"insert nothing", insert(0, ""), "\x01\x00\x00"},
		{"insert ahead", insert(-1, "a"), "\x01\x00\x01a"},
		{"insert too much", insert(0, xs(300)), "\x01\x00\x82\x2c" + xs(300)},
		{"insert with N", text.Op{Kind: text.Insert, S: "a", N: 5}, "\x01\x00\x01a"},
		{"delete", cut(3, 2), "\x02\x03\x02"},
		{"delete 40 at 128", cut(128, 40), "\x02\x81\x00\x28"},
		{"delete too many", cut(300, 300), "\x02\x82\x2c\x82\x2c"},
		{"delete below 0", cut(-1, -1), "\x02\x00\x00"},
		{"delete the least", cut(math.MinInt, math.MinInt), "\x02\x00\x00"},
		{"delete with S", text.Op{Kind: text.Delete, S: "a", N: 5}, "\x02\x00\x05"},
		{"kind 0", text.Op{At: 1, S: "a", N: 5}, "\x00\x01\x05"},
		{"kind 300", text.Op{Kind: 300, At: 1, S: "a", N: 5}, "\x82\x2c\x01\x05"},
	} {
		var w wire.Writer
		w.Str("before")
		x.op.Put(&w)
		if got := w.Text(); got != "\x06before"+x.want {
			t.Errorf("%s: %x", x.name, got)
		}
	}
}

// P5.1: bytes that are an op; what is behind them is left.
func TestTake(t *testing.T) {
	for _, x := range []struct {
		bytes string
		want  text.Op
	}{
		{"\x01\x03\x02ab", insert(3, "ab")},
		{"\x01\x81\x48\x28" + xs(40), insert(200, xs(40))},
		{"\x02\x03\x02", cut(3, 2)},
		{"\x02\x81\x48\x28", cut(200, 40)},
	} {
		r := wire.Read(x.bytes + "\x07")
		if got := text.Take(r); got != x.want || r.Err() != api.OK {
			t.Errorf("%x: %+v, %v", x.bytes, got, r.Err())
		}
		if left := r.Num(); left != 7 || r.End() != api.OK {
			t.Errorf("%x: %d is left, %v", x.bytes, left, r.End())
		}
	}
}

// P5.1: bytes that aren't an op: the first error is the reader's, and nothing is left.
func TestTakeWrong(t *testing.T) {
	for _, x := range []struct {
		name, bytes string
		want        api.Errno
	}{
		{"nothing", "", api.ErrEnd},
		{"no place", "\x01", api.ErrEnd},
		{"no text", "\x01\x00", api.ErrEnd},
		{"half a text", "\x01\x00\x02a", api.ErrEnd},
		{"no number", "\x02\x00", api.ErrEnd},
		{"half a number", "\x02\x00\x81", api.ErrEnd},
		{"kind 3", "\x03\x00\x01", api.ErrBig},
		{"kind 3 alone", "\x03", api.ErrBig},
		{"kind 2^63", "\x81\x80\x80\x80\x80\x80\x80\x80\x80\x00\x00\x01", api.ErrBig},
		{"kind in another spelling", "\x80\x01\x00\x01", api.ErrForm},
		{"at 201", "\x01\x81\x49\x01a", api.ErrBig},
		{"delete at 201", "\x02\x81\x49\x01", api.ErrBig},
		{"at in another spelling", "\x01\x80\x00\x01a", api.ErrForm},
		{"insert 41", "\x01\x00\x29" + xs(41), api.ErrBig},
		{"insert 41, none there", "\x01\x00\x29", api.ErrBig},
		{"delete 41", "\x02\x00\x29", api.ErrBig},
		{"insert nothing", "\x01\x00\x00", api.ErrArg},
		{"delete none", "\x02\x00\x00", api.ErrArg},
		{"kind 0", "\x00\x00\x01", api.ErrKind},
		{"kind 0, nothing else wrong but that it ends", "\x00", api.ErrEnd},
		{"kind 0, at 201", "\x00\x81\x49\x01", api.ErrBig},
		{"kind 0, 41", "\x00\x00\x29", api.ErrBig},
	} {
		tail := "\x07\x07"
		if x.want == api.ErrEnd {
			tail = ""
		}
		r := wire.Read(x.bytes + tail)
		if got := text.Take(r); got != (text.Op{}) || r.Err() != x.want {
			t.Errorf("%s: %+v, %v", x.name, got, r.Err())
		}
		if r.Num() != 0 || r.End() != x.want {
			t.Errorf("%s: then %v", x.name, r.End())
		}
	}
}

// P5.1: behind an error of the reader's, nothing is taken; that error stays.
func TestTakeBehindAnError(t *testing.T) {
	r := wire.Read("\x02\x03\x02")
	r.Fail(api.ErrBusy)
	if got := text.Take(r); got != (text.Op{}) || r.Err() != api.ErrBusy {
		t.Errorf("%+v, %v", got, r.Err())
	}
}

// P5.1: a document's bytes, and bytes that are none.
func TestLoad(t *testing.T) {
	if got := load(t, "a\x00b").Save(); got != "\x03a\x00b" {
		t.Errorf("Save: %x", got)
	}
	for _, x := range []struct {
		name, bytes string
		want        api.Errno
	}{
		{"nothing", "", api.ErrEnd},
		{"bytes are wanting", "\x03ab", api.ErrEnd},
		{"something is left", "\x03abcd", api.ErrForm},
		{"something is left behind nothing", "\x00\x00", api.ErrForm},
		{"201 bytes", "\x81\x49" + xs(201), api.ErrBig},
		{"201 bytes, none there", "\x81\x49", api.ErrBig},
		{"200 bytes, one wanting", "\x81\x48" + xs(199), api.ErrEnd},
		{"200 bytes, one left", "\x81\x48" + xs(201), api.ErrForm},
		{"another spelling", "\x80\x01a", api.ErrForm},
		{"120 bytes, very many left", xs(1 << 20), api.ErrForm},
		{"a number that is none", strings.Repeat("\xff", 1<<20), api.ErrForm},
	} {
		if d, e := text.Load(x.bytes); d != nil || e != x.want {
			t.Errorf("%s: %v, %v", x.name, d, e)
		}
	}
}

// P5.1, K3: what is answered stays, whatever is done then.
func TestAnswersStay(t *testing.T) {
	d := load(t, "abcdef")
	before, bytes := d.Text(), d.Save()
	gone, _ := d.Do(cut(1, 2))
	d.Do(insert(1, "XYZ"))
	d.Do(cut(0, 4))
	if before != "abcdef" || bytes != "\x06abcdef" || gone != "bc" || d.Text() != "def" {
		t.Errorf("%q, %x, %q, %q", before, bytes, gone, d.Text())
	}
}

// someOp is an op that mostly may be done to a document of so many bytes.
func someOp(rnd *rand.Rand, n int) text.Op {
	at := rnd.Intn(min(n, 199) + 2)
	if rnd.Intn(2) == 0 {
		b := make([]byte, rnd.Intn(api.MaxInsert+2))
		rnd.Read(b)
		return insert(at, string(b))
	}
	return cut(at, rnd.Intn(api.MaxInsert+2))
}

// model does an op to plain bytes, one at a time.
func model(s []byte, o text.Op) (then []byte, gone string, e api.Errno) {
	switch {
	case o.Check() != api.OK:
		return s, "", o.Check()
	case o.Kind == text.Insert && o.At > len(s), o.Kind == text.Delete && o.At+o.N > len(s):
		return s, "", api.ErrRange
	case len(s)+len(o.S) > 200:
		return s, "", api.ErrFull
	}
	var went []byte
	for i := 0; i <= len(s); i++ {
		if i == o.At {
			then = append(then, o.S...)
		}
		if i < len(s) && i >= o.At && i < o.At+o.N {
			went = append(went, s[i])
		} else if i < len(s) {
			then = append(then, s[i])
		}
	}
	return then, string(went), api.OK
}

// P5.1, P5.2: BACK: behind each op that was OK its Inverse is OK, and makes the document what it was; behind the Inverse its own one does the op again.
func TestBack(t *testing.T) {
	rnd := rand.New(rand.NewSource(5))
	for range 200 {
		d := text.New()
		var plain []byte
		for range 100 {
			before := d.Text()
			o := someOp(rnd, len(before))
			gone, e := d.Do(o)
			then, went, want := model(plain, o)
			if plain = then; d.Text() != string(then) || gone != went || e != want {
				t.Fatalf("%+v of %q: %q, %v, and %q is there", o, before, gone, e, d.Text())
			}
			if e != api.OK {
				continue
			}
			back := o.Inverse(gone)
			again, e := d.Do(back)
			if e != api.OK || d.Text() != before {
				t.Fatalf("%+v of %q: back: %v, and %q is there", o, before, e, d.Text())
			}
			if back.Inverse(again) != o {
				t.Fatalf("%+v: back and forth: %+v", o, back.Inverse(again))
			}
			if _, e := d.Do(o); e != api.OK || d.Text() != string(plain) {
				t.Fatalf("%+v of %q: again: %v", o, before, e)
			}
		}
	}
}

// P5.2: BACK at the edges: of a full document, and of one that is emptied.
func TestBackAtTheEdges(t *testing.T) {
	for _, x := range []struct {
		s  string
		op text.Op
	}{
		{xs(200), cut(160, 40)},
		{xs(200), cut(0, 40)},
		{xs(160), insert(160, strings.Repeat("y", 40))},
		{xs(160), insert(0, strings.Repeat("y", 40))},
		{xs(40), cut(0, 40)},
		{"", insert(0, xs(40))},
	} {
		d := load(t, x.s)
		gone, e := d.Do(x.op)
		if e != api.OK {
			t.Fatalf("%+v: %v", x.op, e)
		}
		if _, e := d.Do(x.op.Inverse(gone)); e != api.OK || d.Text() != x.s {
			t.Errorf("%+v: back: %v, and %q is there", x.op, e, d.Text())
		}
	}
}

// P5.3: there and back: each op that may be, and each document.
func TestThereAndBack(t *testing.T) {
	rnd := rand.New(rand.NewSource(53))
	d := text.New()
	for range 5000 {
		o := someOp(rnd, 200)
		var w wire.Writer
		o.Put(&w)
		r := wire.Read(w.Text())
		got := text.Take(r)
		if want := o.Check(); want != api.OK {
			o = text.Op{}
		}
		if got != o || (r.End() == api.OK) != (o != text.Op{}) {
			t.Fatalf("%+v: %+v, %v", o, got, r.End())
		}
		d.Do(someOp(rnd, len(d.Text())))
		c := load(t, d.Text())
		if d.Save() != saved(d.Text()) || c.Save() != d.Save() {
			t.Fatalf("%q: %x", d.Text(), d.Save())
		}
	}
}

// P5.3: bytes that are an op are the only ones of it.
func TestBackAndThere(t *testing.T) {
	rnd := rand.New(rand.NewSource(35))
	ops := 0
	for range 50000 {
		b := make([]byte, 3+rnd.Intn(4))
		for i := range b {
			b[i] = byte(rnd.Intn(5))
		}
		if rnd.Intn(2) == 0 {
			b[rnd.Intn(len(b))] = byte(rnd.Intn(256))
		}
		r := wire.Read(string(b))
		o := text.Take(r)
		if r.End() != api.OK {
			continue
		}
		ops++
		var w wire.Writer
		o.Put(&w)
		if w.Text() != string(b) || o.Check() != api.OK {
			t.Fatalf("%x: %+v, %x", b, o, w.Text())
		}
	}
	if ops < 1000 {
		t.Errorf("only %d were ops", ops)
	}
}

// P5.1, K3: a document that was loaded goes its own way.
func TestLoadIsItsOwn(t *testing.T) {
	a := load(t, "abc")
	b, _ := text.Load(a.Save())
	a.Do(insert(0, "x"))
	b.Do(cut(0, 1))
	if a.Text() != "xabc" || b.Text() != "bc" {
		t.Errorf("%q, %q", a.Text(), b.Text())
	}
}

// P1: nothing panics, whatever op is handed in.
func TestAnyOp(t *testing.T) {
	numbers := []int{math.MinInt, -41, -1, 0, 1, 2, 3, 40, 41, 200, 201, math.MaxInt - 1, math.MaxInt}
	texts := []string{"", "a", xs(40), xs(41), xs(300)}
	d := load(t, "abc")
	for _, kind := range numbers {
		for _, at := range numbers {
			for _, n := range numbers {
				for _, s := range texts {
					o := text.Op{Kind: kind, At: at, S: s, N: n}
					if o.Check() == api.OK {
						continue
					}
					if gone, e := d.Do(o); gone != "" || e != o.Check() {
						t.Fatalf("%+v: %q, %v", o, gone, e)
					}
					o.Inverse(s)
					var w wire.Writer
					o.Put(&w)
					r := wire.Read(w.Text())
					if got := text.Take(r); (got == text.Op{}) == (r.Err() == api.OK) {
						t.Fatalf("%+v: %+v, %v", o, got, r.Err())
					}
				}
			}
		}
	}
	if d.Text() != "abc" {
		t.Errorf("%q is there", d.Text())
	}
}
