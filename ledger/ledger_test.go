package ledger_test

import (
	"maps"
	"math"
	"math/rand"
	"slices"
	"strings"
	"testing"

	"hindsight/api"
	"hindsight/ledger"
	"hindsight/wire"
)

const most = 1 << 40

func open(name string) ledger.Op {
	return ledger.Op{Kind: ledger.Open, Name: name}
}

func shut(name string) ledger.Op {
	return ledger.Op{Kind: ledger.Close, Name: name}
}

func move(from, to string, amount int) ledger.Op {
	return ledger.Op{Kind: ledger.Move, Name: from, To: to, Amount: amount}
}

// xs is n bytes.
func xs(n int) string {
	return strings.Repeat("x", n)
}

// names are n names, rising.
func names(n int) []string {
	var l []string
	for i := range n {
		l = append(l, string(rune('a'+i)))
	}
	return l
}

// book is a ledger whose accounts have this.
func book(t *testing.T, of map[string]int) *ledger.Book {
	t.Helper()
	b := ledger.New()
	for name, n := range of {
		do(t, b, open(name))
		if n > 0 {
			do(t, b, move("", name, n))
		}
	}
	holds(t, "made", b, of)
	return b
}

// opened is a ledger of empty accounts.
func opened(t *testing.T, l []string) *ledger.Book {
	t.Helper()
	of := map[string]int{}
	for _, name := range l {
		of[name] = 0
	}
	return book(t, of)
}

// do does an op that is to be OK.
func do(t *testing.T, b *ledger.Book, o ledger.Op) {
	t.Helper()
	if e := b.Do(o); e != api.OK {
		t.Fatalf("%+v: %v", o, e)
	}
}

// holds looks whether a ledger has just these accounts, by all that tells of them.
func holds(t *testing.T, name string, b *ledger.Book, of map[string]int) {
	t.Helper()
	l := slices.Sorted(maps.Keys(of))
	if !slices.Equal(b.Names(), l) {
		t.Errorf("%s: the accounts %q, want %q", name, b.Names(), l)
	}
	var w wire.Writer
	w.Num(uint64(len(l)))
	sum := 0
	for _, x := range l {
		if n, there := b.Has(x); n != of[x] || !there {
			t.Errorf("%s: %q has %d, %v, want %d", name, x, n, there, of[x])
		}
		sum += of[x]
		w.Str(x).Num(uint64(of[x]))
	}
	if n, there := b.Has(""); n != -sum || !there {
		t.Errorf("%s: the house has %d, %v, want %d", name, n, there, -sum)
	}
	if b.Sum() != 0 {
		t.Errorf("%s: the sum is %d", name, b.Sum())
	}
	if b.Save() != w.Text() {
		t.Errorf("%s: saved: %x, want %x", name, b.Save(), w.Text())
	}
}

// checks are ops, and whether they may be.
var checks = []struct {
	name string
	op   ledger.Op
	want api.Errno
}{
	{"open", open("a"), api.OK},
	{"open 12 bytes", open(xs(12)), api.OK},
	{"open any bytes", open("\x00\xff"), api.OK},
	{"open the house", open(""), api.ErrArg},
	{"open 13 bytes", open(xs(13)), api.ErrArg},
	{"open very many", open(xs(1 << 20)), api.ErrArg},
	{"open with To", ledger.Op{Kind: ledger.Open, Name: "a", To: "b"}, api.ErrArg},
	{"open with an amount", ledger.Op{Kind: ledger.Open, Name: "a", Amount: 1}, api.ErrArg},
	{"open with an amount below 0", ledger.Op{Kind: ledger.Open, Name: "a", Amount: -1}, api.ErrArg},
	{"open To", ledger.Op{Kind: ledger.Open, To: "a"}, api.ErrArg},
	{"close", shut("a"), api.OK},
	{"close 12 bytes", shut(xs(12)), api.OK},
	{"close the house", shut(""), api.ErrArg},
	{"close 13 bytes", shut(xs(13)), api.ErrArg},
	{"close with To", ledger.Op{Kind: ledger.Close, Name: "a", To: "b"}, api.ErrArg},
	{"close with an amount", ledger.Op{Kind: ledger.Close, Name: "a", Amount: 1}, api.ErrArg},
	{"move", move("a", "b", 1), api.OK},
	{"move the most", move("a", "b", most), api.OK},
	{"move 12 bytes", move(xs(12), "a"+xs(11), 5), api.OK},
	{"move from the house", move("", "a", 1), api.OK},
	{"move to the house", move("a", "", 1), api.OK},
	{"move nothing", move("a", "b", 0), api.ErrArg},
	{"move less than nothing", move("a", "b", -1), api.ErrArg},
	{"move the least", move("a", "b", math.MinInt), api.ErrArg},
	{"move one more than the most", move("a", "b", most+1), api.ErrArg},
	{"move the greatest", move("a", "b", math.MaxInt), api.ErrArg},
	{"move to itself", move("a", "a", 1), api.ErrArg},
	{"move from house to house", move("", "", 1), api.ErrArg},
	{"move from 13 bytes", move(xs(13), "a", 1), api.ErrArg},
	{"move to 13 bytes", move("a", xs(13), 1), api.ErrArg},
	{"the zero op", ledger.Op{}, api.ErrKind},
	{"kind 0, else right", ledger.Op{Name: "a"}, api.ErrKind},
	{"kind 4, else right", ledger.Op{Kind: 4, Name: "a"}, api.ErrKind},
	{"kind 4, like a move", ledger.Op{Kind: 4, Name: "a", To: "b", Amount: 1}, api.ErrKind},
	{"kind below 0", ledger.Op{Kind: -1, Name: "a"}, api.ErrKind},
	{"kind and names", ledger.Op{Kind: 4, Name: xs(13)}, api.ErrKind},
}

// P6.1: whether an op may be.
func TestCheck(t *testing.T) {
	for _, x := range checks {
		if got := x.op.Check(); got != x.want {
			t.Errorf("%s: %v, want %v", x.name, got, x.want)
		}
	}
}

// P6.1: what may not be isn't done: Check's error comes ahead of all others.
func TestDoChecks(t *testing.T) {
	of := map[string]int{"a": 3, "b": 0}
	b := book(t, of)
	full := opened(t, names(16))
	for _, x := range checks {
		if x.want == api.OK {
			continue
		}
		for _, y := range []*ledger.Book{b, full, ledger.New()} {
			if e := y.Do(x.op); e != x.want {
				t.Errorf("%s: %v, want %v", x.name, e, x.want)
			}
		}
		holds(t, x.name, b, of)
	}
}

// P6.1: at first there is the house alone, which has nothing; each ledger is its own.
func TestNew(t *testing.T) {
	a, b := ledger.New(), ledger.New()
	holds(t, "new", a, nil)
	do(t, a, open("a"))
	do(t, a, move("", "a", 1))
	holds(t, "one", a, map[string]int{"a": 1})
	holds(t, "the other one", b, nil)
}

// P6.1: names rise byte by byte; the house is none of them.
func TestNames(t *testing.T) {
	b := opened(t, []string{"b", "ab", "a", "B", "\xff", "\x00", "aa", "\xc3\xa4", "b\x00"})
	want := []string{"\x00", "B", "a", "aa", "ab", "b", "b\x00", "\xc3\xa4", "\xff"}
	if got := b.Names(); !slices.Equal(got, want) {
		t.Errorf("%q", got)
	}
}

// P6.1: an account that isn't there has nothing.
func TestHasNone(t *testing.T) {
	b := book(t, map[string]int{"a": 5, "ab": 0})
	for _, name := range []string{"b", "A", "a\x00", "abc", xs(13)} {
		if n, there := b.Has(name); n != 0 || there {
			t.Errorf("%q: %d, %v", name, n, there)
		}
	}
	if n, there := b.Has("ab"); n != 0 || !there {
		t.Errorf("an empty one: %d, %v", n, there)
	}
}

// P6.1: each op that may be, where it may be done and where not; where not, nothing changes.
func TestDo(t *testing.T) {
	type of = map[string]int
	for _, x := range []struct {
		name string
		of   of
		op   ledger.Op
		want api.Errno
		then of
	}{
		{"open", of{}, open("a"), api.OK, of{"a": 0}},
		{"open beside others", of{"a": 3}, open("aa"), api.OK, of{"a": 3, "aa": 0}},
		{"open what is there", of{"a": 3}, open("a"), api.ErrThere, nil},
		{"close", of{"a": 0, "b": 1}, shut("a"), api.OK, of{"b": 1}},
		{"close what isn't there", of{"a": 0}, shut("b"), api.ErrNone, nil},
		{"close what has something", of{"a": 1}, shut("a"), api.ErrShort, nil},
		{"close what has the most", of{"a": most}, shut("a"), api.ErrShort, nil},
		{"move from the house", of{"a": 0}, move("", "a", 5), api.OK, of{"a": 5}},
		{"move the most from the house", of{"a": 0, "b": most}, move("", "a", most), api.OK, of{"a": most, "b": most}},
		{"move to the house", of{"a": 5}, move("a", "", 5), api.OK, of{"a": 0}},
		{"move", of{"a": 5, "b": 1}, move("a", "b", 4), api.OK, of{"a": 1, "b": 5}},
		{"move all", of{"a": most, "b": 0}, move("a", "b", most), api.OK, of{"a": 0, "b": most}},
		{"move up to the most", of{"a": 2, "b": most - 1}, move("a", "b", 1), api.OK, of{"a": 1, "b": most}},
		{"move over the most", of{"a": 2, "b": most - 1}, move("a", "b", 2), api.ErrOver, nil},
		{"move from the house over the most", of{"a": most}, move("", "a", 1), api.ErrOver, nil},
		{"move more than there is", of{"a": 4, "b": 1}, move("a", "b", 5), api.ErrShort, nil},
		{"move to the house more than there is", of{"a": 4, "b": 9}, move("a", "", 5), api.ErrShort, nil},
		{"move of nothing", of{"a": 0, "b": 1}, move("a", "b", 1), api.ErrShort, nil},
		{"move from what isn't there", of{"b": 1}, move("a", "b", 1), api.ErrNone, nil},
		{"move to what isn't there", of{"a": 1}, move("a", "b", 1), api.ErrNone, nil},
		{"move from the house to what isn't there", of{"a": 1}, move("", "b", 1), api.ErrNone, nil},
		{"move from what isn't there to the house", of{"a": 1}, move("b", "", 1), api.ErrNone, nil},
		{"move more than there is to what isn't there", of{"a": 1}, move("a", "b", 2), api.ErrNone, nil},
		{"move more than there is over the most", of{"a": 1, "b": most}, move("a", "b", 2), api.ErrShort, nil},
		{"move from what isn't there over the most", of{"b": most}, move("a", "b", 2), api.ErrNone, nil},
	} {
		b := book(t, x.of)
		if e := b.Do(x.op); e != x.want {
			t.Errorf("%s: %v, want %v", x.name, e, x.want)
		}
		if x.want != api.OK {
			x.then = x.of
		}
		holds(t, x.name, b, x.then)
	}
}

// P6.1: at most 16 accounts, beside the house; one that is closed makes room.
func TestFull(t *testing.T) {
	b := opened(t, names(16))
	if e := b.Do(open("z")); e != api.ErrFull {
		t.Errorf("the 17th: %v", e)
	}
	if e := b.Do(open("a")); e != api.ErrThere {
		t.Errorf("one of the 16: %v", e)
	}
	if len(b.Names()) != 16 {
		t.Errorf("%q", b.Names())
	}
	do(t, b, shut("c"))
	do(t, b, open("z"))
	if e := b.Do(open("c")); e != api.ErrFull {
		t.Errorf("the 17th again: %v", e)
	}
}

// P6.1: the example of the chapter.
func TestExample(t *testing.T) {
	b := ledger.New()
	do(t, b, open("a"))
	do(t, b, move("", "a", 5))
	n, _ := b.Has("a")
	house, _ := b.Has("")
	if n != 5 || house != -5 {
		t.Errorf("%d, %d", n, house)
	}
}

// P6.1: the op that takes back another one, whether that may be or not.
func TestInverse(t *testing.T) {
	for _, x := range []struct {
		name     string
		op, want ledger.Op
	}{
		{"open", open("a"), shut("a")},
		{"close", shut("a"), open("a")},
		{"move", move("a", "b", 3), move("b", "a", 3)},
		{"move from the house", move("", "b", 3), move("b", "", 3)},
		{"move to the house", move("a", "", 3), move("", "a", 3)},
		{"open the house", open(""), shut("")},
		{"open too long a name", open(xs(20)), shut(xs(20))},
		{"open with what is of a move", ledger.Op{Kind: ledger.Open, Name: "a", To: "b", Amount: 2}, shut("a")},
		{"close with what is of a move", ledger.Op{Kind: ledger.Close, Name: "a", To: "b", Amount: 2}, open("a")},
		{"move too much", move("a", "a", -7), move("a", "a", -7)},
	} {
		if got := x.op.Inverse(); got != x.want {
			t.Errorf("%s: %+v", x.name, got)
		}
	}
}

// P6.1: the accounts of an op, but the house.
func TestTouches(t *testing.T) {
	for _, x := range []struct {
		name string
		op   ledger.Op
		want []string
	}{
		{"open", open("a"), []string{"a"}},
		{"close", shut("a"), []string{"a"}},
		{"move", move("a", "b", 1), []string{"a", "b"}},
		{"move, falling", move("b", "a", 1), []string{"b", "a"}},
		{"move from the house", move("", "b", 1), []string{"b"}},
		{"move to the house", move("a", "", 1), []string{"a"}},
		{"the house alone", move("", "", 1), nil},
		{"the zero op", ledger.Op{}, nil},
	} {
		if got := x.op.Touches(); !slices.Equal(got, x.want) {
			t.Errorf("%s: %q", x.name, got)
		}
	}
}

// P6.1: an op's bytes, whether it may be or not.
func TestPut(t *testing.T) {
	for _, x := range []struct {
		name string
		op   ledger.Op
		want string
	}{
		{"open", open("a"), "\x01\x01a"},
		{"open any bytes", open("\x00\xff"), "\x01\x02\x00\xff"},
		{"open with what is of a move", ledger.Op{Kind: ledger.Open, Name: "a", To: "b", Amount: 2}, "\x01\x01a"},
		{"close", shut("ab"), "\x02\x02ab"},
		{"close the house", shut(""), "\x02\x00"},
		{"move", move("a", "bc", 300), "\x03\x01a\x02bc\x82\x2c"},
		{"move to the house", move("a", "", 5), "\x03\x01a\x00\x05"},
		{"move from the house the most", move("", "a", most), "\x03\x00\x01a\xa0\x80\x80\x80\x80\x00"},
		{"move less than nothing", move("a", "b", -1), "\x03\x01a\x01b\x00"},
		{"move the least", move("a", "b", math.MinInt), "\x03\x01a\x01b\x00"},
		{"move long names", move(xs(128), xs(129), 1), "\x03\x81\x00" + xs(128) + "\x81\x01" + xs(129) + "\x01"},
		{"kind 0", ledger.Op{Name: "a", To: "b", Amount: 2}, "\x00\x01a"},
		{"kind 300", ledger.Op{Kind: 300, Name: "a", To: "b", Amount: 2}, "\x82\x2c\x01a"},
	} {
		var w wire.Writer
		w.Str("before")
		x.op.Put(&w)
		if got := w.Text(); got != "\x06before"+x.want {
			t.Errorf("%s: %x", x.name, got)
		}
	}
}

// P6.1: bytes that are an op; what is behind them is left.
func TestTake(t *testing.T) {
	for _, x := range []struct {
		bytes string
		want  ledger.Op
	}{
		{"\x01\x01a", open("a")},
		{"\x01\x0c" + xs(12), open(xs(12))},
		{"\x02\x02\x00\xff", shut("\x00\xff")},
		{"\x03\x01a\x00\x05", move("a", "", 5)},
		{"\x03\x00\x0c" + xs(12) + "\xa0\x80\x80\x80\x80\x00", move("", xs(12), most)},
	} {
		r := wire.Read(x.bytes + "\x07")
		if got := ledger.Take(r); got != x.want || r.Err() != api.OK {
			t.Errorf("%x: %+v, %v", x.bytes, got, r.Err())
		}
		if left := r.Num(); left != 7 || r.End() != api.OK {
			t.Errorf("%x: %d is left, %v", x.bytes, left, r.End())
		}
	}
}

// P6.1: bytes that aren't an op: the first error is the reader's, and nothing is left.
func TestTakeWrong(t *testing.T) {
	for _, x := range []struct {
		name, bytes string
		want        api.Errno
	}{
		{"nothing", "", api.ErrEnd},
		{"no name", "\x01", api.ErrEnd},
		{"half a name", "\x02\x02a", api.ErrEnd},
		{"no To", "\x03\x01a", api.ErrEnd},
		{"half a To", "\x03\x01a\x02b", api.ErrEnd},
		{"no amount", "\x03\x01a\x01b", api.ErrEnd},
		{"half an amount", "\x03\x01a\x01b\x81", api.ErrEnd},
		{"kind 4", "\x04\x01a", api.ErrBig},
		{"kind 4 alone", "\x04", api.ErrBig},
		{"kind in another spelling", "\x80\x01\x01a", api.ErrForm},
		{"a name of 13 bytes", "\x01\x0d" + xs(13), api.ErrBig},
		{"a name of 13 bytes, none there", "\x01\x0d", api.ErrBig},
		{"a To of 13 bytes", "\x03\x01a\x0d" + xs(13) + "\x01", api.ErrBig},
		{"a name in another spelling", "\x01\x80\x01a", api.ErrForm},
		{"an amount above the most", "\x03\x01a\x01b\xa0\x80\x80\x80\x80\x01", api.ErrBig},
		{"an amount in another spelling", "\x03\x01a\x01b\x80\x01", api.ErrForm},
		{"open the house", "\x01\x00", api.ErrArg},
		{"close the house", "\x02\x00", api.ErrArg},
		{"move nothing", "\x03\x01a\x01b\x00", api.ErrArg},
		{"move to itself", "\x03\x01a\x01a\x01", api.ErrArg},
		{"move from house to house", "\x03\x00\x00\x01", api.ErrArg},
		{"move to itself, 13 bytes", "\x03\x0d" + xs(13) + "\x0d" + xs(13) + "\x01", api.ErrBig},
		{"move to itself too much", "\x03\x01a\x01a\xa0\x80\x80\x80\x80\x01", api.ErrBig},
		{"kind 0", "\x00\x01a", api.ErrKind},
		{"kind 0 of the house", "\x00\x00", api.ErrKind},
		{"kind 0, nothing else wrong but that it ends", "\x00", api.ErrEnd},
		{"kind 0, 13 bytes", "\x00\x0d" + xs(13), api.ErrBig},
	} {
		tail := "\x07\x07"
		if x.want == api.ErrEnd {
			tail = ""
		}
		r := wire.Read(x.bytes + tail)
		if got := ledger.Take(r); got != (ledger.Op{}) || r.Err() != x.want {
			t.Errorf("%s: %+v, %v", x.name, got, r.Err())
		}
		if r.Num() != 0 || r.End() != x.want {
			t.Errorf("%s: then %v", x.name, r.End())
		}
	}
}

// P6.1: behind an error of the reader's, nothing is taken; that error stays.
func TestTakeBehindAnError(t *testing.T) {
	r := wire.Read("\x01\x01a")
	r.Fail(api.ErrBusy)
	if got := ledger.Take(r); got != (ledger.Op{}) || r.Err() != api.ErrBusy {
		t.Errorf("%+v, %v", got, r.Err())
	}
}

// P6.1: bytes that are a ledger; the house has what makes the sum 0.
func TestLoad(t *testing.T) {
	type of = map[string]int
	for _, x := range []struct {
		bytes string
		want  of
	}{
		{"\x00", nil},
		{"\x01\x01a\x00", of{"a": 0}},
		{"\x03\x01\x00\x05\x01b\xa0\x80\x80\x80\x80\x00\x0c" + xs(12) + "\x82\x2c", of{"\x00": 5, "b": most, xs(12): 300}},
		{"\x03\x01a\x01\x02aa\x02\x01b\x03", of{"a": 1, "aa": 2, "b": 3}},
	} {
		b, e := ledger.Load(x.bytes)
		if e != api.OK || b == nil {
			t.Fatalf("%x: %v", x.bytes, e)
		}
		holds(t, "loaded", b, x.want)
		do(t, b, open("new"))
		do(t, b, move("", "new", 1))
	}
}

// P6.1: bytes that aren't a ledger: of what is wrong with one account, layer 2's errors come first; of several ones, the first one's.
func TestLoadWrong(t *testing.T) {
	of16, of17 := "\x10", "\x11"
	for _, name := range names(16) {
		of16 += "\x01" + name + "\x01"
		of17 += "\x01" + name + "\x01"
	}
	for _, x := range []struct {
		name, bytes string
		want        api.Errno
	}{
		{"nothing", "", api.ErrEnd},
		{"half a number", "\x81", api.ErrEnd},
		{"a number in another spelling", "\x80\x01\x01a\x01", api.ErrForm},
		{"17 accounts", of17 + "\x01z\x01", api.ErrBig},
		{"17 accounts, none there", "\x11", api.ErrBig},
		{"16 accounts, one more", of16 + "\x01z\x01", api.ErrForm},
		{"very many accounts", "\x81\x80\x80\x80\x80\x80\x80\x80\x80\x00", api.ErrBig},
		{"no account", "\x01", api.ErrEnd},
		{"half a name", "\x01\x02a", api.ErrEnd},
		{"no amount", "\x01\x01a", api.ErrEnd},
		{"half an amount", "\x01\x01a\x81", api.ErrEnd},
		{"an account is wanting", "\x02\x01a\x01", api.ErrEnd},
		{"a name of 13 bytes", "\x01\x0d" + xs(13) + "\x00", api.ErrBig},
		{"an amount above the most", "\x01\x01a\xa0\x80\x80\x80\x80\x01", api.ErrBig},
		{"an amount in another spelling", "\x01\x01a\x80\x01", api.ErrForm},
		{"the house", "\x01\x00\x00", api.ErrForm},
		{"the house, no amount", "\x01\x00", api.ErrEnd},
		{"the house, too much", "\x01\x00\xa0\x80\x80\x80\x80\x01", api.ErrBig},
		{"the house behind another one", "\x02\x01a\x01\x00\x01", api.ErrForm},
		{"the same name", "\x02\x01a\x01\x01a\x01", api.ErrForm},
		{"a falling name", "\x02\x01b\x01\x01a\x01", api.ErrForm},
		{"a falling name, no amount", "\x02\x01b\x01\x01a", api.ErrEnd},
		{"a falling name, too much", "\x02\x01b\x01\x01a\xa0\x80\x80\x80\x80\x01", api.ErrBig},
		{"a falling name, then too much", "\x03\x01b\x01\x01a\x01\x01c\xa0\x80\x80\x80\x80\x01", api.ErrForm},
		{"a falling name, then none", "\x03\x01b\x01\x01a\x01", api.ErrForm},
		{"the last name falls behind the first one but one", "\x03\x01b\x01\x01c\x01\x01b\x01", api.ErrForm},
		{"something is left", "\x01\x01a\x01\x00", api.ErrForm},
		{"something is left behind none", "\x00\x00", api.ErrForm},
	} {
		if b, e := ledger.Load(x.bytes); b != nil || e != x.want {
			t.Errorf("%s: %v, %v", x.name, b, e)
		}
	}
	b, e := ledger.Load(of16)
	if e != api.OK || len(b.Names()) != 16 {
		t.Errorf("16 accounts: %v", e)
	}
}

// P6.1, K3: what is answered shares nothing with the ledger, nor with another answer.
func TestAnswersAreTheirOwn(t *testing.T) {
	b := book(t, map[string]int{"a": 1, "b": 2})
	l, bytes := b.Names(), b.Save()
	l[0] = "z"
	l = append(l[:1], "y")
	holds(t, "behind a change of the names", b, map[string]int{"a": 1, "b": 2})
	c, _ := ledger.Load(bytes)
	do(t, b, move("a", "", 1))
	do(t, b, shut("a"))
	holds(t, "the loaded one", c, map[string]int{"a": 1, "b": 2})
	do(t, c, open("c"))
	holds(t, "the first one", b, map[string]int{"b": 2})
	if !slices.Equal(l, []string{"z", "y"}) {
		t.Errorf("%q", l)
	}
	o := move("a", "b", 1)
	first := o.Touches()
	first[0] = "z"
	if second := o.Touches(); !slices.Equal(second, []string{"a", "b"}) || o.Name != "a" {
		t.Errorf("Touches: %q", second)
	}
}

// someOp is an op that mostly may be, of few names.
func someOp(rnd *rand.Rand, few int) ledger.Op {
	name := func() string { return string(rune('a' + rnd.Intn(few))) }
	switch rnd.Intn(8) {
	case 0, 1:
		return open(name())
	case 2:
		return shut(name())
	case 3, 4:
		return move("", name(), someAmount(rnd))
	case 5:
		return move(name(), "", someAmount(rnd))
	}
	return move(name(), name(), someAmount(rnd))
}

// someAmount is small, or near the most.
func someAmount(rnd *rand.Rand) int {
	switch rnd.Intn(6) {
	case 0:
		return most - rnd.Intn(3)
	case 1:
		return most/2 + rnd.Intn(3) - 1
	}
	return rnd.Intn(5)
}

// someBook is a ledger that has gone some way.
func someBook(rnd *rand.Rand, few, ops int) *ledger.Book {
	b := ledger.New()
	for range ops {
		b.Do(someOp(rnd, few))
	}
	return b
}

// clone is another ledger like it.
func clone(t *testing.T, b *ledger.Book) *ledger.Book {
	t.Helper()
	c, e := ledger.Load(b.Save())
	if e != api.OK {
		t.Fatalf("Load: %v", e)
	}
	return c
}

// model does an op to accounts that are pairs, sought one by one; the house is none of them.
func model(of [][2]any, o ledger.Op) ([][2]any, api.Errno) {
	find := func(name string) int {
		return slices.IndexFunc(of, func(x [2]any) bool { return x[0] == name })
	}
	from, to := find(o.Name), find(o.To)
	switch {
	case o.Check() != api.OK:
		return of, o.Check()
	case o.Kind == ledger.Open && from >= 0:
		return of, api.ErrThere
	case o.Kind == ledger.Open && len(of) == 16:
		return of, api.ErrFull
	case o.Kind == ledger.Open:
		return append(of, [2]any{o.Name, 0}), api.OK
	case o.Name != "" && from < 0:
		return of, api.ErrNone
	case o.Kind == ledger.Close && of[from][1] != 0:
		return of, api.ErrShort
	case o.Kind == ledger.Close:
		return slices.Delete(of, from, from+1), api.OK
	case o.To != "" && to < 0:
		return of, api.ErrNone
	case o.Name != "" && of[from][1].(int) < o.Amount:
		return of, api.ErrShort
	case o.To != "" && of[to][1].(int)+o.Amount > most:
		return of, api.ErrOver
	}
	if o.Name != "" {
		of[from][1] = of[from][1].(int) - o.Amount
	}
	if o.To != "" {
		of[to][1] = of[to][1].(int) + o.Amount
	}
	return of, api.OK
}

// nothing looks whether the sum of all is 0, and no account has less than 0 or more than the most.
func nothing(t *testing.T, b *ledger.Book) {
	t.Helper()
	sum, _ := b.Has("")
	for _, name := range b.Names() {
		n, _ := b.Has(name)
		if sum += n; n < 0 || n > most {
			t.Fatalf("%q has %d", name, n)
		}
	}
	if sum != 0 || b.Sum() != 0 {
		t.Fatalf("the sum is %d, and said to be %d", sum, b.Sum())
	}
}

// P6.1, P6.2, P6.3: whatever is done, the sum of all is 0 and no account has what it may not; behind an op that was OK its Inverse is OK, and makes the ledger what it was.
func TestNothingAndBack(t *testing.T) {
	rnd := rand.New(rand.NewSource(6))
	met := map[api.Errno]int{}
	for i := range 300 {
		b := ledger.New()
		var plain [][2]any
		for range 200 {
			before := b.Save()
			o := someOp(rnd, 3+i%20)
			e := b.Do(o)
			var want api.Errno
			plain, want = model(plain, o)
			of := map[string]int{}
			for _, x := range plain {
				of[x[0].(string)] = x[1].(int)
			}
			met[e]++
			if e != want {
				t.Fatalf("%+v of %x: %v, want %v", o, before, e, want)
			}
			holds(t, "behind an op", b, of)
			nothing(t, b)
			if e != api.OK {
				continue
			}
			after := b.Save()
			do(t, b, o.Inverse())
			nothing(t, b)
			if b.Save() != before {
				t.Fatalf("%+v of %x: back: %x", o, before, b.Save())
			}
			if o.Inverse().Inverse() != o {
				t.Fatalf("%+v: back and forth: %+v", o, o.Inverse().Inverse())
			}
			do(t, b, o)
			if b.Save() != after {
				t.Fatalf("%+v of %x: again: %x", o, before, b.Save())
			}
		}
	}
	for _, e := range []api.Errno{api.OK, api.ErrArg, api.ErrThere, api.ErrFull, api.ErrNone, api.ErrShort, api.ErrOver} {
		if met[e] == 0 {
			t.Errorf("%v was never met", e)
		}
	}
}

// P6.2: of 16 accounts that have the most, the house has what makes the sum of all 0; no more comes in.
func TestTheMost(t *testing.T) {
	of := map[string]int{}
	for _, name := range names(16) {
		of[name] = most
	}
	b := book(t, of)
	nothing(t, b)
	if house, _ := b.Has(""); house != -16*most {
		t.Errorf("the house has %d", house)
	}
	for _, name := range names(16) {
		if e := b.Do(move("", name, 1)); e != api.ErrOver {
			t.Errorf("%q: %v", name, e)
		}
	}
	holds(t, "behind all", b, of)
	nothing(t, clone(t, b))
}

// P6.3: BACK at the edges.
func TestBackAtTheEdges(t *testing.T) {
	type of = map[string]int
	full := of{}
	for _, name := range names(16) {
		full[name] = 0
	}
	for _, x := range []struct {
		of of
		op ledger.Op
	}{
		{of{}, open("a")},
		{full, shut("a")},
		{of{"a": 0}, move("", "a", most)},
		{of{"a": most}, move("a", "", most)},
		{of{"a": most, "b": 0}, move("a", "b", most)},
		{of{"a": 1, "b": most - 1}, move("a", "b", 1)},
	} {
		b := book(t, x.of)
		do(t, b, x.op)
		do(t, b, x.op.Inverse())
		holds(t, "back", b, x.of)
	}
}

// apart: do two ops touch no account in common?
func apart(a, b ledger.Op) bool {
	return !slices.ContainsFunc(a.Touches(), func(name string) bool { return slices.Contains(b.Touches(), name) })
}

// P6.4: APART: ops that touch no account in common, each of which is OK by itself, and behind which there are at most 16 accounts all the time, come to the same in either order.
func TestApart(t *testing.T) {
	rnd := rand.New(rand.NewSource(64))
	met := map[[2]int]int{}
	for range 60000 {
		few := 2 + rnd.Intn(24)
		b := someBook(rnd, few, rnd.Intn(60))
		x, y := someOp(rnd, few), someOp(rnd, few)
		byX, byY := clone(t, b), clone(t, b)
		if !apart(x, y) || byX.Do(x) != api.OK || byY.Do(y) != api.OK {
			continue
		}
		if len(b.Names()) >= 15 && x.Kind == ledger.Open && y.Kind == ledger.Open {
			continue
		}
		if len(b.Names()) == 16 && (x.Kind == ledger.Open || y.Kind == ledger.Open) {
			continue
		}
		met[[2]int{x.Kind, y.Kind}]++
		do(t, byX, y)
		do(t, byY, x)
		if byX.Save() != byY.Save() {
			t.Fatalf("%+v, %+v of %x: %x, %x", x, y, b.Save(), byX.Save(), byY.Save())
		}
	}
	for x := ledger.Open; x <= ledger.Move; x++ {
		for y := ledger.Open; y <= ledger.Move; y++ {
			if met[[2]int{x, y}] == 0 {
				t.Errorf("%d and %d were never apart", x, y)
			}
		}
	}
}

// P6.4: APART: two that move from the house, or to it, touch nothing in common.
func TestApartByTheHouse(t *testing.T) {
	for _, x := range [][2]ledger.Op{
		{move("", "a", 3), move("", "b", 4)},
		{move("a", "", 1), move("b", "", 2)},
		{move("", "a", 3), move("b", "", 2)},
	} {
		if !apart(x[0], x[1]) {
			t.Errorf("%+v: %q, %q", x, x[0].Touches(), x[1].Touches())
		}
		b := book(t, map[string]int{"a": 1, "b": 2})
		c := clone(t, b)
		do(t, b, x[0])
		do(t, b, x[1])
		do(t, c, x[1])
		do(t, c, x[0])
		if b.Save() != c.Save() {
			t.Errorf("%+v: %x, %x", x, b.Save(), c.Save())
		}
	}
	if apart(move("a", "b", 1), shut("b")) || apart(move("a", "b", 1), shut("a")) || apart(open("a"), open("a")) {
		t.Error("what touches one account is apart")
	}
}

// P6.5: there and back: each op that may be, and each ledger.
func TestThereAndBack(t *testing.T) {
	rnd := rand.New(rand.NewSource(65))
	for range 5000 {
		o := someOp(rnd, 20)
		if rnd.Intn(4) == 0 {
			o.Name += xs(rnd.Intn(14))
		}
		var w wire.Writer
		o.Put(&w)
		r := wire.Read(w.Text())
		got := ledger.Take(r)
		if want := o.Check(); want != api.OK {
			o = ledger.Op{}
		}
		if got != o || (r.End() == api.OK) != (o != ledger.Op{}) {
			t.Fatalf("%+v: %+v, %v", o, got, r.End())
		}
	}
	for range 1000 {
		b := someBook(rnd, 2+rnd.Intn(24), rnd.Intn(100))
		of := map[string]int{}
		for _, name := range b.Names() {
			of[name], _ = b.Has(name)
		}
		holds(t, "loaded", clone(t, b), of)
	}
}

// P6.5: bytes that are an op, or a ledger, are the only ones of it.
func TestBackAndThere(t *testing.T) {
	rnd := rand.New(rand.NewSource(56))
	ops, books := 0, 0
	for range 200000 {
		b := make([]byte, 1+rnd.Intn(9))
		for i := range b {
			b[i] = byte(rnd.Intn(4))
		}
		if rnd.Intn(2) == 0 {
			b[rnd.Intn(len(b))] = byte(rnd.Intn(256))
		}
		r := wire.Read(string(b))
		if o := ledger.Take(r); r.End() == api.OK {
			ops++
			var w wire.Writer
			o.Put(&w)
			if w.Text() != string(b) || o.Check() != api.OK {
				t.Fatalf("%x: %+v, %x", b, o, w.Text())
			}
		}
		if l, e := ledger.Load(string(b)); e == api.OK {
			books++
			nothing(t, l)
			if l.Save() != string(b) {
				t.Fatalf("%x: %x", b, l.Save())
			}
		}
	}
	if ops < 1000 || books < 1000 {
		t.Errorf("only %d ops and %d ledgers", ops, books)
	}
}

// P1: nothing panics, whatever op is handed in.
func TestAnyOp(t *testing.T) {
	numbers := []int{math.MinInt, -1, 0, 1, 2, 3, 4, most, most + 1, math.MaxInt}
	texts := []string{"", "a", "b", xs(12), xs(13), xs(300)}
	of := map[string]int{"a": 1}
	b := book(t, of)
	for _, kind := range numbers {
		for _, amount := range numbers {
			for _, name := range texts {
				for _, to := range texts {
					o := ledger.Op{Kind: kind, Name: name, To: to, Amount: amount}
					o.Inverse()
					o.Touches()
					var w wire.Writer
					o.Put(&w)
					r := wire.Read(w.Text())
					if got := ledger.Take(r); (got == ledger.Op{}) == (r.Err() == api.OK) {
						t.Fatalf("%+v: %+v, %v", o, got, r.Err())
					}
					if o.Check() == api.OK {
						continue
					}
					if e := b.Do(o); e != o.Check() {
						t.Fatalf("%+v: %v", o, e)
					}
				}
			}
		}
	}
	holds(t, "behind all", b, of)
}
