package stock_test

import (
	"maps"
	"math"
	"math/rand"
	"slices"
	"strings"
	"testing"

	"hindsight/api"
	"hindsight/stock"
	"hindsight/wire"
)

const most = 1 << 40

func add(name string, n int) stock.Op {
	return stock.Op{Kind: stock.Add, Name: name, N: n}
}

func take(name string, n int) stock.Op {
	return stock.Op{Kind: stock.Take, Name: name, N: n}
}

// xs is n bytes.
func xs(n int) string {
	return strings.Repeat("x", n)
}

// some is a shelf's goods: n of them, one of each.
func some(n int) map[string]int {
	of := map[string]int{}
	for i := range n {
		of[string(rune('a'+i))] = 1
	}
	return of
}

// with is these goods, and n of one more.
func with(of map[string]int, name string, n int) map[string]int {
	of = maps.Clone(of)
	of[name] = n
	return of
}

// shelf is one that has these goods.
func shelf(t *testing.T, of map[string]int) *stock.Shelf {
	t.Helper()
	s := stock.New()
	for name, n := range of {
		do(t, s, add(name, n))
	}
	holds(t, "made", s, of)
	return s
}

// do does an op that is to be OK.
func do(t *testing.T, s *stock.Shelf, o stock.Op) {
	t.Helper()
	if e := s.Do(o); e != api.OK {
		t.Fatalf("%+v: %v", o, e)
	}
}

// saved is the bytes of a shelf that has these goods.
func saved(of map[string]int) string {
	var w wire.Writer
	w.Num(uint64(len(of)))
	for _, name := range slices.Sorted(maps.Keys(of)) {
		w.Str(name).Num(uint64(of[name]))
	}
	return w.Text()
}

// holds looks whether a shelf has just these goods, by all that tells of them.
func holds(t *testing.T, name string, s *stock.Shelf, of map[string]int) {
	t.Helper()
	if want := slices.Sorted(maps.Keys(of)); !slices.Equal(s.Names(), want) {
		t.Errorf("%s: the goods %q, want %q", name, s.Names(), want)
	}
	for x, n := range of {
		if s.Count(x) != n {
			t.Errorf("%s: %d of %q, want %d", name, s.Count(x), x, n)
		}
	}
	if s.Save() != saved(of) {
		t.Errorf("%s: saved: %x, want %x", name, s.Save(), saved(of))
	}
}

// checks are ops, and whether they may be.
var checks = []struct {
	name string
	op   stock.Op
	want api.Errno
}{
	{"add", add("a", 1), api.OK},
	{"add the most", add("a", most), api.OK},
	{"add 12 bytes", add(xs(12), 5), api.OK},
	{"add any bytes", add("\x00\xff", 5), api.OK},
	{"take", take("a", 1), api.OK},
	{"take the most", take("a", most), api.OK},
	{"take 12 bytes", take(xs(12), 5), api.OK},
	{"add of no name", add("", 1), api.ErrArg},
	{"add 13 bytes", add(xs(13), 1), api.ErrArg},
	{"add very many bytes", add(xs(1<<20), 1), api.ErrArg},
	{"add nothing", add("a", 0), api.ErrArg},
	{"add less than nothing", add("a", -1), api.ErrArg},
	{"add one more than the most", add("a", most+1), api.ErrArg},
	{"add the greatest", add("a", math.MaxInt), api.ErrArg},
	{"add the least", add("a", math.MinInt), api.ErrArg},
	{"take of no name", take("", 1), api.ErrArg},
	{"take 13 bytes", take(xs(13), 1), api.ErrArg},
	{"take nothing", take("a", 0), api.ErrArg},
	{"take less than nothing", take("a", -1), api.ErrArg},
	{"take one more than the most", take("a", most+1), api.ErrArg},
	{"take the greatest", take("a", math.MaxInt), api.ErrArg},
	{"take the least", take("a", math.MinInt), api.ErrArg},
	{"the zero op", stock.Op{}, api.ErrKind},
	{"kind 0, else right", stock.Op{Name: "a", N: 1}, api.ErrKind},
	{"kind 3, else right", stock.Op{Kind: 3, Name: "a", N: 1}, api.ErrKind},
	{"kind below 0", stock.Op{Kind: -1, Name: "a", N: 1}, api.ErrKind},
	{"kind and name", stock.Op{Kind: 3, N: 1}, api.ErrKind},
	{"kind and number", stock.Op{Kind: 3, Name: "a"}, api.ErrKind},
}

// P7.1: whether an op may be.
func TestCheck(t *testing.T) {
	for _, x := range checks {
		if got := x.op.Check(); got != x.want {
			t.Errorf("%s: %v, want %v", x.name, got, x.want)
		}
	}
}

// P7.1: what may not be isn't done: Check's error comes ahead of all others.
func TestDoChecks(t *testing.T) {
	for _, of := range []map[string]int{{}, {"a": 3}, {"a": most}, some(16)} {
		s := shelf(t, of)
		for _, x := range checks {
			if x.want == api.OK {
				continue
			}
			if e := s.Do(x.op); e != x.want {
				t.Errorf("%s: %v, want %v", x.name, e, x.want)
			}
			holds(t, x.name, s, of)
		}
	}
}

// P7.1: at first there is nothing; each shelf is its own.
func TestNew(t *testing.T) {
	a, b := stock.New(), stock.New()
	holds(t, "new", a, nil)
	if a.Save() != "\x00" {
		t.Errorf("new: %x", a.Save())
	}
	do(t, a, add("nut", 5))
	holds(t, "one", a, map[string]int{"nut": 5})
	holds(t, "the other one", b, nil)
	holds(t, "a third one", stock.New(), nil)
}

// P7.1: names rise byte by byte.
func TestNames(t *testing.T) {
	want := []string{"\x00", "B", "a", "aa", "ab", "b", "b\x00", "\xc3\xa4", "\xff"}
	of := map[string]int{}
	for i, name := range want {
		of[name] = i + 1
	}
	if got := shelf(t, of).Names(); !slices.Equal(got, want) {
		t.Errorf("%q", got)
	}
}

// P7.1: of a good that isn't there, there is none, and asking for it changes nothing.
func TestCountNone(t *testing.T) {
	of := map[string]int{"a": 5, "ab": 1}
	s := shelf(t, of)
	for _, name := range []string{"", "b", "A", "a\x00", "abc", xs(13)} {
		if n := s.Count(name); n != 0 {
			t.Errorf("%q: %d", name, n)
		}
	}
	holds(t, "behind all", s, of)
}

// P7.1: each op that may be, where it may be done and where not; where not, nothing changes.
func TestDo(t *testing.T) {
	type of = map[string]int
	for _, x := range []struct {
		name string
		of   of
		op   stock.Op
		want api.Errno
		then of
	}{
		{"add", of{}, add("a", 3), api.OK, of{"a": 3}},
		{"add the most", of{}, add("a", most), api.OK, of{"a": most}},
		{"add beside others", of{"a": 3}, add("aa", 1), api.OK, of{"a": 3, "aa": 1}},
		{"add to what is there", of{"a": 3}, add("a", 4), api.OK, of{"a": 7}},
		{"add up to the most", of{"a": 3}, add("a", most-3), api.OK, of{"a": most}},
		{"add over the most", of{"a": 3}, add("a", most-2), api.ErrOver, nil},
		{"add one over the most", of{"a": most}, add("a", 1), api.ErrOver, nil},
		{"add the most to the most", of{"a": most}, add("a", most), api.ErrOver, nil},
		{"add the most beside the most", of{"a": most}, add("b", most), api.OK, of{"a": most, "b": most}},
		{"add the 16th good", some(15), add("z", 7), api.OK, with(some(15), "z", 7)},
		{"add a 17th good", some(16), add("z", 1), api.ErrFull, nil},
		{"add the most of a 17th good", some(16), add("z", most), api.ErrFull, nil},
		{"add to one of 16", some(16), add("p", 4), api.OK, with(some(15), "p", 5)},
		{"add to one of 16 over the most", some(16), add("p", most), api.ErrOver, nil},
		{"take some", of{"a": 3, "b": 9}, take("a", 2), api.OK, of{"a": 1, "b": 9}},
		{"take all", of{"a": 3, "b": 9}, take("a", 3), api.OK, of{"b": 9}},
		{"take the last one", of{"a": 1}, take("a", 1), api.OK, of{}},
		{"take the most", of{"a": most}, take("a", most), api.OK, of{}},
		{"take one of the most", of{"a": most}, take("a", 1), api.OK, of{"a": most - 1}},
		{"take more than there are", of{"a": 3}, take("a", 4), api.ErrShort, nil},
		{"take the most of one", of{"a": 1}, take("a", most), api.ErrShort, nil},
		{"take what there is none of", of{"a": 3}, take("b", 1), api.ErrNone, nil},
		{"take of nothing", of{}, take("a", most), api.ErrNone, nil},
	} {
		s := shelf(t, x.of)
		if e := s.Do(x.op); e != x.want {
			t.Errorf("%s: %v, want %v", x.name, e, x.want)
		}
		if x.want != api.OK {
			x.then = x.of
		}
		holds(t, x.name, s, x.then)
	}
}

// P7.1: a good of which all went isn't there any more, and makes room for another one.
func TestRoom(t *testing.T) {
	s := shelf(t, some(16))
	do(t, s, take("c", 1))
	if e := s.Do(take("c", 1)); e != api.ErrNone {
		t.Errorf("of a good that went: %v", e)
	}
	do(t, s, add("z", 2))
	if e := s.Do(add("c", 1)); e != api.ErrFull {
		t.Errorf("the 17th: %v", e)
	}
	of := with(some(16), "z", 2)
	delete(of, "c")
	holds(t, "behind all", s, of)
}

// P7.1: the example of the chapter.
func TestExample(t *testing.T) {
	s := stock.New()
	do(t, s, add("nut", 5))
	do(t, s, take("nut", 5))
	holds(t, "nothing", s, nil)
}

// P7.1: the op that takes back another one, whether that may be or not.
func TestInverse(t *testing.T) {
	for _, x := range []struct {
		name     string
		op, want stock.Op
	}{
		{"add", add("a", 3), take("a", 3)},
		{"take", take("a", 3), add("a", 3)},
		{"add of no name", add("", 3), take("", 3)},
		{"add too long a name", add(xs(20), 3), take(xs(20), 3)},
		{"take less than nothing", take("a", -7), add("a", -7)},
		{"take too many", take("a", most+1), add("a", most+1)},
	} {
		if got := x.op.Inverse(); got != x.want {
			t.Errorf("%s: %+v", x.name, got)
		}
	}
}

// P7.1: an op's bytes, whether it may be or not.
func TestPut(t *testing.T) {
	for _, x := range []struct {
		name string
		op   stock.Op
		want string
	}{
		{"add", add("nut", 7), "\x01\x03nut\x07"},
		{"take", take("nut", 300), "\x02\x03nut\x82\x2c"},
		{"add any bytes", add("\x00\xff", 1), "\x01\x02\x00\xff\x01"},
		{"add the most", add("a", most), "\x01\x01a\xa0\x80\x80\x80\x80\x00"},
		{"take one more than the most", take("a", most+1), "\x02\x01a\xa0\x80\x80\x80\x80\x01"},
		{"add of no name", add("", 1), "\x01\x00\x01"},
		{"add a long name", add(xs(128), 1), "\x01\x81\x00" + xs(128) + "\x01"},
		{"add nothing", add("a", 0), "\x01\x01a\x00"},
		{"add less than nothing", add("a", -1), "\x01\x01a\x00"},
		{"take the least", take("a", math.MinInt), "\x02\x01a\x00"},
		{"kind 0", stock.Op{Name: "a", N: 5}, "\x00\x01a\x05"},
		{"kind 300", stock.Op{Kind: 300, Name: "a", N: 5}, "\x82\x2c\x01a\x05"},
	} {
		var w wire.Writer
		w.Str("before")
		x.op.Put(&w)
		if got := w.Text(); got != "\x06before"+x.want {
			t.Errorf("%s: %x", x.name, got)
		}
	}
}

// P7.1: bytes that are an op; what is behind them is left.
func TestRead(t *testing.T) {
	for _, x := range []struct {
		bytes string
		want  stock.Op
	}{
		{"\x01\x03nut\x07", add("nut", 7)},
		{"\x02\x02\x00\xff\x01", take("\x00\xff", 1)},
		{"\x01\x0c" + xs(12) + "\xa0\x80\x80\x80\x80\x00", add(xs(12), most)},
	} {
		r := wire.Read(x.bytes + "\x07")
		if got := stock.Read(r); got != x.want || r.Err() != api.OK {
			t.Errorf("%x: %+v, %v", x.bytes, got, r.Err())
		}
		if left := r.Num(); left != 7 || r.End() != api.OK {
			t.Errorf("%x: %d is left, %v", x.bytes, left, r.End())
		}
	}
}

// P7.1: bytes that aren't an op: the first error is the reader's, and nothing is left.
func TestReadWrong(t *testing.T) {
	for _, x := range []struct {
		name, bytes string
		want        api.Errno
	}{
		{"nothing", "", api.ErrEnd},
		{"no name", "\x01", api.ErrEnd},
		{"half a name", "\x02\x02a", api.ErrEnd},
		{"no number", "\x01\x01a", api.ErrEnd},
		{"half a number", "\x01\x01a\x81", api.ErrEnd},
		{"kind 3", "\x03\x01a\x01", api.ErrBig},
		{"kind 3 alone", "\x03", api.ErrBig},
		{"kind 2^63", "\x81\x80\x80\x80\x80\x80\x80\x80\x80\x00\x01a\x01", api.ErrBig},
		{"kind in another spelling", "\x80\x01\x01a\x01", api.ErrForm},
		{"a name of 13 bytes", "\x01\x0d" + xs(13) + "\x01", api.ErrBig},
		{"a name of 13 bytes, none there", "\x01\x0d", api.ErrBig},
		{"a name in another spelling", "\x01\x80\x01a\x01", api.ErrForm},
		{"one more than the most", "\x01\x01a\xa0\x80\x80\x80\x80\x01", api.ErrBig},
		{"a number in another spelling", "\x01\x01a\x80\x01", api.ErrForm},
		{"of no name", "\x01\x00\x01", api.ErrArg},
		{"nothing comes in", "\x01\x01a\x00", api.ErrArg},
		{"nothing goes", "\x02\x01a\x00", api.ErrArg},
		{"of no name, one more than the most", "\x01\x00\xa0\x80\x80\x80\x80\x01", api.ErrBig},
		{"kind 0", "\x00\x01a\x01", api.ErrKind},
		{"kind 0 of no name", "\x00\x00\x00", api.ErrKind},
		{"kind 0, nothing else wrong but that it ends", "\x00", api.ErrEnd},
		{"kind 0, 13 bytes", "\x00\x0d" + xs(13) + "\x01", api.ErrBig},
	} {
		tail := "\x07\x07"
		if x.want == api.ErrEnd {
			tail = ""
		}
		r := wire.Read(x.bytes + tail)
		if got := stock.Read(r); got != (stock.Op{}) || r.Err() != x.want {
			t.Errorf("%s: %+v, %v", x.name, got, r.Err())
		}
		if r.Num() != 0 || r.End() != x.want {
			t.Errorf("%s: then %v", x.name, r.End())
		}
	}
}

// P7.1: behind an error of the reader's, nothing is read; that error stays.
func TestReadBehindAnError(t *testing.T) {
	r := wire.Read("\x01\x01a\x01")
	r.Fail(api.ErrBusy)
	if got := stock.Read(r); got != (stock.Op{}) || r.Err() != api.ErrBusy {
		t.Errorf("%+v, %v", got, r.Err())
	}
}

// P7.1: bytes that are a shelf, to which one goes on.
func TestLoad(t *testing.T) {
	type of = map[string]int
	for _, x := range []struct {
		bytes string
		want  of
	}{
		{"\x00", of{}},
		{"\x01\x01a\x01", of{"a": 1}},
		{"\x03\x01\x00\x05\x01b\xa0\x80\x80\x80\x80\x00\x0c" + xs(12) + "\x82\x2c", of{"\x00": 5, "b": most, xs(12): 300}},
		{"\x03\x01a\x01\x02aa\x02\x01b\x03", of{"a": 1, "aa": 2, "b": 3}},
		{saved(some(16)), some(16)},
	} {
		s, e := stock.Load(x.bytes)
		if e != api.OK || s == nil {
			t.Fatalf("%x: %v", x.bytes, e)
		}
		holds(t, "loaded", s, x.want)
		if len(x.want) < 16 {
			do(t, s, add("new", 2))
			do(t, s, take("new", 1))
			holds(t, "then", s, with(x.want, "new", 1))
		}
	}
}

// P7.1: bytes that aren't a shelf: of what is wrong with one good, layer 2's errors come first; of several ones, the first one's.
func TestLoadWrong(t *testing.T) {
	for _, x := range []struct {
		name, bytes string
		want        api.Errno
	}{
		{"nothing", "", api.ErrEnd},
		{"half a number", "\x81", api.ErrEnd},
		{"a number in another spelling", "\x80\x01\x01a\x01", api.ErrForm},
		{"17 goods", saved(some(17)), api.ErrBig},
		{"17 goods, none there", "\x11", api.ErrBig},
		{"16 goods, one more", saved(some(16)) + "\x01z\x01", api.ErrForm},
		{"very many goods", "\x81\x80\x80\x80\x80\x80\x80\x80\x80\x00", api.ErrBig},
		{"no good", "\x01", api.ErrEnd},
		{"half a name", "\x01\x02a", api.ErrEnd},
		{"no count", "\x01\x01a", api.ErrEnd},
		{"half a count", "\x01\x01a\x81", api.ErrEnd},
		{"a good is wanting", "\x02\x01a\x01", api.ErrEnd},
		{"a name of 13 bytes", "\x01\x0d" + xs(13) + "\x01", api.ErrBig},
		{"one more than the most", "\x01\x01a\xa0\x80\x80\x80\x80\x01", api.ErrBig},
		{"a count in another spelling", "\x01\x01a\x80\x01", api.ErrForm},
		{"none of it", "\x01\x01a\x00", api.ErrForm},
		{"none of the second one", "\x02\x01a\x01\x01b\x00", api.ErrForm},
		{"none of it, then one is wanting", "\x02\x01a\x00", api.ErrForm},
		{"none of it, then too many", "\x02\x01a\x00\x01b\xa0\x80\x80\x80\x80\x01", api.ErrForm},
		{"no name", "\x01\x00\x01", api.ErrForm},
		{"no name, no count", "\x01\x00", api.ErrEnd},
		{"no name, too many", "\x01\x00\xa0\x80\x80\x80\x80\x01", api.ErrBig},
		{"no name behind another one", "\x02\x01a\x01\x00\x01", api.ErrForm},
		{"the same name", "\x02\x01a\x01\x01a\x01", api.ErrForm},
		{"a falling name", "\x02\x01b\x01\x01a\x01", api.ErrForm},
		{"a falling name, no count", "\x02\x01b\x01\x01a", api.ErrEnd},
		{"a falling name, too many", "\x02\x01b\x01\x01a\xa0\x80\x80\x80\x80\x01", api.ErrBig},
		{"a falling name, then too many", "\x03\x01b\x01\x01a\x01\x01c\xa0\x80\x80\x80\x80\x01", api.ErrForm},
		{"a falling name, then none", "\x03\x01b\x01\x01a\x01", api.ErrForm},
		{"the last name falls behind the first one but one", "\x03\x01b\x01\x01c\x01\x01b\x01", api.ErrForm},
		{"something is left", "\x01\x01a\x01\x00", api.ErrForm},
		{"something is left behind none", "\x00\x00", api.ErrForm},
	} {
		if s, e := stock.Load(x.bytes); s != nil || e != x.want {
			t.Errorf("%s: %v, %v", x.name, s, e)
		}
	}
}

// P7.1, K3: what is answered shares nothing with the shelf, nor with another answer.
func TestAnswersAreTheirOwn(t *testing.T) {
	s := shelf(t, map[string]int{"a": 1, "b": 2})
	l, bytes := s.Names(), s.Save()
	l[0] = "z"
	l = append(l[:1], "y")
	holds(t, "behind a change of the names", s, map[string]int{"a": 1, "b": 2})
	c, _ := stock.Load(bytes)
	do(t, s, take("a", 1))
	holds(t, "the loaded one", c, map[string]int{"a": 1, "b": 2})
	do(t, c, add("c", 3))
	holds(t, "the first one", s, map[string]int{"b": 2})
	if !slices.Equal(l, []string{"z", "y"}) {
		t.Errorf("%q", l)
	}
}

// someOp is an op that mostly may be, of few names.
func someOp(rnd *rand.Rand, few int) stock.Op {
	o := stock.Op{Kind: 1 + rnd.Intn(2), Name: string(rune('a' + rnd.Intn(few))), N: rnd.Intn(5)}
	switch rnd.Intn(12) {
	case 0:
		o.N = most - rnd.Intn(3)
	case 1:
		o.N = most/2 + rnd.Intn(3) - 1
	}
	return o
}

// good is a name, and how many there are.
type good struct {
	name string
	n    int
}

// model does an op to goods that are sought one by one.
func model(l []good, o stock.Op) ([]good, api.Errno) {
	i := slices.IndexFunc(l, func(x good) bool { return x.name == o.Name })
	switch {
	case o.Check() != api.OK:
		return l, o.Check()
	case o.Kind == stock.Take && i < 0:
		return l, api.ErrNone
	case o.Kind == stock.Take && l[i].n < o.N:
		return l, api.ErrShort
	case o.Kind == stock.Take && l[i].n == o.N:
		return slices.Delete(l, i, i+1), api.OK
	case o.Kind == stock.Take:
		l[i].n -= o.N
		return l, api.OK
	case i < 0 && len(l) == 16:
		return l, api.ErrFull
	case i < 0:
		return append(l, good{o.Name, o.N}), api.OK
	case l[i].n+o.N > most:
		return l, api.ErrOver
	}
	l[i].n += o.N
	return l, api.OK
}

// P7.1, P7.2: BACK: whatever is done, behind an op that was OK its Inverse is OK, and makes the shelf what it was; behind the Inverse its own one does the op again.
func TestBack(t *testing.T) {
	rnd := rand.New(rand.NewSource(7))
	met := map[api.Errno]int{}
	for i := range 300 {
		s := stock.New()
		var plain []good
		for range 200 {
			before := s.Save()
			o := someOp(rnd, 2+i%24)
			e := s.Do(o)
			var want api.Errno
			plain, want = model(plain, o)
			of := map[string]int{}
			for _, x := range plain {
				of[x.name] = x.n
			}
			met[e]++
			if e != want {
				t.Fatalf("%+v of %x: %v, want %v", o, before, e, want)
			}
			holds(t, "behind an op", s, of)
			if e != api.OK {
				continue
			}
			do(t, s, o.Inverse())
			if s.Save() != before {
				t.Fatalf("%+v of %x: back: %x", o, before, s.Save())
			}
			if o.Inverse().Inverse() != o {
				t.Fatalf("%+v: back and forth: %+v", o, o.Inverse().Inverse())
			}
			do(t, s, o)
			holds(t, "again", s, of)
		}
	}
	for _, e := range []api.Errno{api.OK, api.ErrArg, api.ErrFull, api.ErrNone, api.ErrShort, api.ErrOver} {
		if met[e] == 0 {
			t.Errorf("%v was never met", e)
		}
	}
}

// P7.2: BACK at the edges: of a full shelf, of one that is emptied, of the most.
func TestBackAtTheEdges(t *testing.T) {
	type of = map[string]int
	for _, x := range []struct {
		of of
		op stock.Op
	}{
		{of{}, add("a", 1)},
		{of{}, add("a", most)},
		{of{"a": most}, take("a", most)},
		{of{"a": most}, take("a", 1)},
		{of{"a": 1}, add("a", most-1)},
		{some(16), take("p", 1)},
		{some(16), add("p", most-1)},
		{some(15), add("p", most)},
	} {
		s := shelf(t, x.of)
		do(t, s, x.op)
		do(t, s, x.op.Inverse())
		holds(t, "back", s, x.of)
	}
}

// P7.3: there and back: each op that may be, and each shelf.
func TestThereAndBack(t *testing.T) {
	rnd := rand.New(rand.NewSource(73))
	for range 5000 {
		o := someOp(rnd, 20)
		if rnd.Intn(4) == 0 {
			o.Name += xs(rnd.Intn(14))
		}
		var w wire.Writer
		o.Put(&w)
		r := wire.Read(w.Text())
		got := stock.Read(r)
		if want := o.Check(); want != api.OK {
			o = stock.Op{}
		}
		if got != o || (r.End() == api.OK) != (o != stock.Op{}) {
			t.Fatalf("%+v: %+v, %v", o, got, r.End())
		}
	}
	for range 1000 {
		s := stock.New()
		few := 2 + rnd.Intn(24)
		for range rnd.Intn(100) {
			s.Do(someOp(rnd, few))
		}
		of := map[string]int{}
		for _, name := range s.Names() {
			of[name] = s.Count(name)
		}
		c, e := stock.Load(s.Save())
		if e != api.OK {
			t.Fatalf("%x: %v", s.Save(), e)
		}
		holds(t, "loaded", c, of)
	}
}

// P7.3: bytes that are an op, or a shelf, are the only ones of it.
func TestBackAndThere(t *testing.T) {
	rnd := rand.New(rand.NewSource(37))
	ops, shelves := 0, 0
	for range 200000 {
		b := make([]byte, 1+rnd.Intn(9))
		for i := range b {
			b[i] = byte(rnd.Intn(4))
		}
		if rnd.Intn(2) == 0 {
			b[rnd.Intn(len(b))] = byte(rnd.Intn(256))
		}
		r := wire.Read(string(b))
		if o := stock.Read(r); r.End() == api.OK {
			ops++
			var w wire.Writer
			o.Put(&w)
			if w.Text() != string(b) || o.Check() != api.OK {
				t.Fatalf("%x: %+v, %x", b, o, w.Text())
			}
		}
		if s, e := stock.Load(string(b)); e == api.OK {
			shelves++
			if s.Save() != string(b) {
				t.Fatalf("%x: %x", b, s.Save())
			}
		}
	}
	if ops < 1000 || shelves < 1000 {
		t.Errorf("only %d ops and %d shelves", ops, shelves)
	}
}

// P1: nothing panics, whatever op is handed in.
func TestAnyOp(t *testing.T) {
	numbers := []int{math.MinInt, -1, 0, 1, 2, 3, most, most + 1, math.MaxInt}
	of := map[string]int{"a": 1}
	s := shelf(t, of)
	for _, kind := range numbers {
		for _, n := range numbers {
			for _, name := range []string{"", "a", "b", xs(12), xs(13), xs(300)} {
				o := stock.Op{Kind: kind, Name: name, N: n}
				o.Inverse()
				var w wire.Writer
				o.Put(&w)
				r := wire.Read(w.Text())
				if got := stock.Read(r); (got == stock.Op{}) == (r.Err() == api.OK) {
					t.Fatalf("%+v: %+v, %v", o, got, r.Err())
				}
				if o.Check() == api.OK {
					continue
				}
				if e := s.Do(o); e != o.Check() {
					t.Fatalf("%+v: %v", o, e)
				}
			}
		}
	}
	holds(t, "behind all", s, of)
}
