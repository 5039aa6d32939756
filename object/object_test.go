package object_test

import (
	"math"
	"math/rand"
	"slices"
	"strings"
	"testing"

	"hindsight/api"
	"hindsight/ledger"
	"hindsight/object"
	"hindsight/stock"
	"hindsight/text"
	"hindsight/wire"
)

const most = 1 << 40

// kinds are all that there are.
var kinds = []int{object.Text, object.Ledger, object.Stock}

// nokinds are some that aren't there.
var nokinds = []int{math.MinInt, -3, -1, 0, 4, 300, math.MaxInt}

// all are those that there are, and some that aren't.
var all = slices.Concat(kinds, nokinds)

func ofText(o text.Op) object.Op {
	return object.Op{Kind: object.Text, Text: o}
}

func insert(at int, s string) object.Op {
	return ofText(text.Op{Kind: text.Insert, At: at, S: s})
}

func cut(at, n int) object.Op {
	return ofText(text.Op{Kind: text.Delete, At: at, N: n})
}

func ofLedger(o ledger.Op) object.Op {
	return object.Op{Kind: object.Ledger, Ledger: o}
}

func open(name string) object.Op {
	return ofLedger(ledger.Op{Kind: ledger.Open, Name: name})
}

func shut(name string) object.Op {
	return ofLedger(ledger.Op{Kind: ledger.Close, Name: name})
}

func move(from, to string, amount int) object.Op {
	return ofLedger(ledger.Op{Kind: ledger.Move, Name: from, To: to, Amount: amount})
}

func ofStock(o stock.Op) object.Op {
	return object.Op{Kind: object.Stock, Stock: o}
}

func add(name string, n int) object.Op {
	return ofStock(stock.Op{Kind: stock.Add, Name: name, N: n})
}

func take(name string, n int) object.Op {
	return ofStock(stock.Op{Kind: stock.Take, Name: name, N: n})
}

// xs is n bytes.
func xs(n int) string {
	return strings.Repeat("x", n)
}

// some are n goods, or accounts, as bytes: one of each.
func some(n int) string {
	var w wire.Writer
	w.Num(uint64(n))
	for i := range n {
		w.Str(string(rune('a' + i))).Num(1)
	}
	return w.Text()
}

// load is an object of a kind, of its bytes.
func load(t *testing.T, kind int, s string) object.State {
	t.Helper()
	x, e := object.Load(kind, s)
	if e != api.OK || x == nil || x.Kind() != kind || x.Save() != s {
		t.Fatalf("Load of a %d, %x: %v", kind, s, e)
	}
	return x
}

// do does ops that are to be OK.
func do(t *testing.T, x object.State, l ...object.Op) {
	t.Helper()
	for _, o := range l {
		if r := x.Do(o); r.Err != api.OK {
			t.Fatalf("%+v: %v", o, r.Err)
		}
	}
}

// P8.1: an object of each kind, as at first, and its own; of no other kind.
func TestNew(t *testing.T) {
	firsts := []object.Op{insert(0, "ab"), open("a"), add("nut", 5)}
	thens := []string{"\x02ab", "\x01\x01a\x00", "\x01\x03nut\x05"}
	for i, kind := range kinds {
		a, b := object.New(kind), object.New(kind)
		if a.Kind() != kind || a.Save() != "\x00" {
			t.Errorf("%d: %d, %x", kind, a.Kind(), a.Save())
		}
		do(t, a, firsts[i])
		if a.Save() != thens[i] || b.Save() != "\x00" || object.New(kind).Save() != "\x00" {
			t.Errorf("%d: %x, another one: %x", kind, a.Save(), b.Save())
		}
	}
	for _, kind := range nokinds {
		if x := object.New(kind); x != nil {
			t.Errorf("%d: %v", kind, x)
		}
	}
}

// P8.1: the numbers of the kinds.
func TestKinds(t *testing.T) {
	if object.Text != 1 || object.Ledger != 2 || object.Stock != 3 {
		t.Errorf("%d, %d, %d", object.Text, object.Ledger, object.Stock)
	}
}

// P8.1: bytes that are an object, to which one goes on; the same bytes may be several kinds.
func TestLoad(t *testing.T) {
	for _, x := range []struct {
		kind  int
		bytes string
		op    object.Op
		then  string
	}{
		{object.Text, "\x00", insert(0, "a"), "\x01a"},
		{object.Text, "\x02\x01a", cut(0, 1), "\x01a"},
		{object.Ledger, "\x00", open("a"), "\x01\x01a\x00"},
		{object.Ledger, "\x01\x01a\x05", move("a", "", 5), "\x01\x01a\x00"},
		{object.Stock, "\x00", add("a", 1), "\x01\x01a\x01"},
		{object.Stock, "\x01\x01a\x05", take("a", 5), "\x00"},
	} {
		y := load(t, x.kind, x.bytes)
		do(t, y, x.op)
		if y.Save() != x.then {
			t.Errorf("%d, %x: then %x", x.kind, x.bytes, y.Save())
		}
	}
}

// P8.1: bytes that aren't an object: nil beside the error of its layer, and beside that of no kind, whatever the bytes are.
func TestLoadWrong(t *testing.T) {
	for _, x := range []struct {
		name  string
		kind  int
		bytes string
		want  api.Errno
	}{
		{"a text of nothing", object.Text, "", api.ErrEnd},
		{"a text that is half there", object.Text, "\x02a", api.ErrEnd},
		{"a text, something is left", object.Text, "\x01ab", api.ErrForm},
		{"a text of 201 bytes", object.Text, "\x81\x49" + xs(201), api.ErrBig},
		{"a ledger of nothing", object.Ledger, "", api.ErrEnd},
		{"a ledger of 17", object.Ledger, some(17), api.ErrBig},
		{"a ledger with the house", object.Ledger, "\x01\x00\x01", api.ErrForm},
		{"a stock of nothing", object.Stock, "", api.ErrEnd},
		{"a stock of 17", object.Stock, some(17), api.ErrBig},
		{"a stock with none of a good", object.Stock, "\x01\x01a\x00", api.ErrForm},
	} {
		if y, e := object.Load(x.kind, x.bytes); y != nil || e != x.want {
			t.Errorf("%s: %v, %v", x.name, y, e)
		}
	}
	for _, kind := range nokinds {
		for _, s := range []string{"", "\x00", "\x01\x01a\x01", "\xff"} {
			if y, e := object.Load(kind, s); y != nil || e != api.ErrKind {
				t.Errorf("kind %d, %x: %v, %v", kind, s, y, e)
			}
		}
	}
}

// P8.1: how an op ends, and what went; where it doesn't end well, nothing changes.
func TestDo(t *testing.T) {
	for _, x := range []struct {
		name   string
		kind   int
		before string
		op     object.Op
		want   object.Result
		then   string
	}{
		{"insert", object.Text, "\x02ab", insert(0, "c"), object.Result{}, "\x03cab"},
		{"delete", object.Text, "\x03abc", cut(1, 2), object.Result{Gone: "bc"}, "\x01a"},
		{"delete what isn't there", object.Text, "\x03abc", cut(1, 3), object.Result{Err: api.ErrRange}, ""},
		{"insert nothing", object.Text, "\x03abc", insert(1, ""), object.Result{Err: api.ErrArg}, ""},
		{"insert too much", object.Text, "\x81\x48" + xs(200), insert(1, "a"), object.Result{Err: api.ErrFull}, ""},
		{"a text's op of no kind", object.Text, "\x01a", ofText(text.Op{Kind: 3, N: 1}), object.Result{Err: api.ErrKind}, ""},
		{"open", object.Ledger, "\x00", open("a"), object.Result{}, "\x01\x01a\x00"},
		{"close", object.Ledger, "\x01\x01a\x00", shut("a"), object.Result{}, "\x00"},
		{"move", object.Ledger, "\x02\x01a\x05\x01b\x00", move("a", "b", 5), object.Result{}, "\x02\x01a\x00\x01b\x05"},
		{"open what is there", object.Ledger, "\x01\x01a\x00", open("a"), object.Result{Err: api.ErrThere}, ""},
		{"close what has something", object.Ledger, "\x01\x01a\x05", shut("a"), object.Result{Err: api.ErrShort}, ""},
		{"move to what isn't there", object.Ledger, "\x01\x01a\x05", move("a", "b", 1), object.Result{Err: api.ErrNone}, ""},
		{"open a 17th", object.Ledger, some(16), open("z"), object.Result{Err: api.ErrFull}, ""},
		{"a ledger's op of no kind", object.Ledger, "\x00", ofLedger(ledger.Op{Name: "a"}), object.Result{Err: api.ErrKind}, ""},
		{"add", object.Stock, "\x00", add("nut", 5), object.Result{}, "\x01\x03nut\x05"},
		{"take", object.Stock, "\x01\x03nut\x05", take("nut", 5), object.Result{}, "\x00"},
		{"take too many", object.Stock, "\x01\x03nut\x05", take("nut", 6), object.Result{Err: api.ErrShort}, ""},
		{"take what there is none of", object.Stock, "\x01\x03nut\x05", take("bolt", 1), object.Result{Err: api.ErrNone}, ""},
		{"add over the most", object.Stock, "\x01\x03nut\x05", add("nut", most), object.Result{Err: api.ErrOver}, ""},
		{"a stock's op of no kind", object.Stock, "\x00", ofStock(stock.Op{Kind: 3, Name: "a", N: 1}), object.Result{Err: api.ErrKind}, ""},
	} {
		y := load(t, x.kind, x.before)
		if x.want.Err != api.OK {
			x.then = x.before
		}
		if r := y.Do(x.op); r != x.want || y.Save() != x.then {
			t.Errorf("%s: %+v, and %x is there", x.name, r, y.Save())
		}
	}
}

// P8.1: an op of another kind isn't done, whether it has something of the object's kind in it or not.
func TestDoOtherKinds(t *testing.T) {
	every := object.Op{Text: insert(0, "a").Text, Ledger: open("b").Ledger, Stock: add("c", 1).Stock}
	wrong := text.Op{Kind: 9, At: -1}
	for i, kind := range kinds {
		before := []string{"\x01a", "\x01\x01a\x01", "\x01\x01a\x01"}[i]
		x := load(t, kind, before)
		for _, other := range all {
			if other == kind {
				continue
			}
			every.Kind = other
			for _, o := range []object.Op{every, {Kind: other}, {Kind: other, Text: wrong}} {
				if r := x.Do(o); r != (object.Result{Err: api.ErrKind}) || x.Save() != before {
					t.Errorf("%d: %+v: %+v, and %x is there", kind, o, r, x.Save())
				}
			}
		}
	}
}

// P8.1: another one like it, which goes its own way, as does the first one.
func TestClone(t *testing.T) {
	for _, x := range []struct {
		kind        int
		bytes       string
		one, other  object.Op
		then, there string
	}{
		{object.Text, "\x03abc", cut(0, 1), insert(3, "d"), "\x02bc", "\x04abcd"},
		{object.Text, "\x00", insert(0, "a"), insert(0, "b"), "\x01a", "\x01b"},
		{object.Ledger, "\x02\x01a\x05\x01b\x00", move("a", "b", 2), shut("b"), "\x02\x01a\x03\x01b\x02", "\x01\x01a\x05"},
		{object.Ledger, "\x00", open("a"), open("b"), "\x01\x01a\x00", "\x01\x01b\x00"},
		{object.Stock, "\x01\x03nut\x05", take("nut", 5), add("bolt", 1), "\x00", "\x02\x04bolt\x01\x03nut\x05"},
		{object.Stock, "\x00", add("a", 1), add("b", 1), "\x01\x01a\x01", "\x01\x01b\x01"},
	} {
		a := load(t, x.kind, x.bytes)
		b := a.Clone()
		if b.Kind() != x.kind || b.Save() != x.bytes {
			t.Fatalf("of %x: a %d, %x", x.bytes, b.Kind(), b.Save())
		}
		do(t, a, x.one)
		if b.Save() != x.bytes {
			t.Errorf("of %x: it went along: %x", x.bytes, b.Save())
		}
		do(t, b, x.other)
		if a.Save() != x.then || b.Save() != x.there || b.Clone().Save() != x.there {
			t.Errorf("of %x: %x, %x", x.bytes, a.Save(), b.Save())
		}
	}
}

// P8.1: clones of all that is full are like it.
func TestCloneOfTheMost(t *testing.T) {
	var w wire.Writer
	w.Num(16)
	for i := range 16 {
		w.Str(string(rune('a'+i)) + xs(11)).Num(most)
	}
	for _, x := range []object.State{load(t, object.Text, "\x81\x48"+xs(200)), load(t, object.Ledger, w.Text()), load(t, object.Stock, w.Text())} {
		if y := x.Clone(); y.Save() != x.Save() || y.Kind() != x.Kind() {
			t.Errorf("%d: %x", x.Kind(), y.Save())
		}
	}
}

// P8.1: the op that takes back another one, whether that may be or not; what went counts for a Text alone.
func TestInverse(t *testing.T) {
	for _, x := range []struct {
		name string
		op   object.Op
		r    object.Result
		want object.Op
	}{
		{"insert", insert(3, "abc"), object.Result{}, cut(3, 3)},
		{"insert, whatever went", insert(3, "abc"), object.Result{Gone: "z"}, cut(3, 3)},
		{"delete", cut(3, 2), object.Result{Gone: "ab"}, insert(3, "ab")},
		{"delete, of an error", cut(3, 2), object.Result{Err: api.ErrRange}, insert(3, "")},
		{"open", open("a"), object.Result{}, shut("a")},
		{"close", shut("a"), object.Result{Gone: "z"}, open("a")},
		{"move", move("a", "b", 3), object.Result{}, move("b", "a", 3)},
		{"move from the house", move("", "b", 3), object.Result{Err: api.ErrNone}, move("b", "", 3)},
		{"add", add("a", 3), object.Result{}, take("a", 3)},
		{"take", take("a", 3), object.Result{Gone: "z", Err: api.ErrShort}, add("a", 3)},
		{"take what may not be", take("", -3), object.Result{}, add("", -3)},
	} {
		if got := x.op.Inverse(x.r); got != x.want {
			t.Errorf("%s: %+v", x.name, got)
		}
	}
}

// P8.1: which ops are apart, either way round.
func TestApart(t *testing.T) {
	for _, x := range []struct {
		name string
		a, b object.Op
		want bool
	}{
		{"add of two goods", add("nut", 1), add("bolt", 2), true},
		{"add and take of two goods", add("nut", 1), take("bolt", 1), true},
		{"goods of like names", add("nut", 1), add("nut\x00", 1), true},
		{"add of one good", add("nut", 1), add("nut", 2), false},
		{"add and take of one good", add("nut", 1), take("nut", 1), false},
		{"goods of no name", add("", 1), take("", 1), false},
		{"the zero ops of a Stock", ofStock(stock.Op{}), ofStock(stock.Op{}), false},
		{"open of two accounts", open("a"), open("b"), true},
		{"open and close of two accounts", open("a"), shut("b"), true},
		{"open of one account", open("a"), open("a"), false},
		{"open and close of one account", open("a"), shut("a"), false},
		{"open, and move from it", open("a"), move("a", "b", 1), false},
		{"open, and move to it", open("b"), move("a", "b", 1), false},
		{"open, and move of others", open("c"), move("a", "b", 1), true},
		{"moves of four accounts", move("a", "b", 1), move("c", "d", 1), true},
		{"moves from one account", move("a", "b", 1), move("a", "c", 1), false},
		{"moves to one account", move("a", "c", 1), move("b", "c", 1), false},
		{"moves, one behind the other", move("a", "b", 1), move("b", "c", 1), false},
		{"moves there and back", move("a", "b", 1), move("b", "a", 1), false},
		{"moves from the house", move("", "a", 1), move("", "b", 1), true},
		{"moves from the house, and to it", move("", "a", 1), move("b", "", 1), true},
		{"moves from the house to one account", move("", "a", 1), move("", "a", 1), false},
		{"the house alone", move("", "", 1), move("", "", 1), true},
		{"insert and insert", insert(0, "a"), insert(7, "b"), false},
		{"insert and delete", insert(0, "a"), cut(7, 1), false},
		{"delete and delete", cut(0, 1), cut(7, 1), false},
		{"a good and an account", add("a", 1), open("b"), false},
		{"a good and a document", add("a", 1), insert(0, "b"), false},
		{"an account and a document", open("a"), insert(0, "b"), false},
		{"the zero ops", object.Op{}, object.Op{}, false},
		{"of no kind", object.Op{Kind: 4, Stock: add("a", 1).Stock}, object.Op{Kind: 4, Stock: add("b", 1).Stock}, false},
		{"of no kind, below 0", object.Op{Kind: -1}, object.Op{Kind: -1}, false},
		{"of a kind and of none", add("a", 1), object.Op{Stock: add("b", 1).Stock}, false},
	} {
		if object.Apart(x.a, x.b) != x.want || object.Apart(x.b, x.a) != x.want {
			t.Errorf("%s: %v, %v", x.name, object.Apart(x.a, x.b), object.Apart(x.b, x.a))
		}
	}
}

// P8.1: whether an op may be, of an object of a kind.
func TestCheck(t *testing.T) {
	for _, x := range []struct {
		name string
		op   object.Op
		want api.Errno
	}{
		{"insert", insert(200, xs(40)), api.OK},
		{"insert nothing", insert(0, ""), api.ErrArg},
		{"delete", cut(0, 1), api.OK},
		{"a text's op of no kind", ofText(text.Op{}), api.ErrKind},
		{"open", open(xs(12)), api.OK},
		{"open the house", open(""), api.ErrArg},
		{"move", move("a", "", most), api.OK},
		{"a ledger's op of no kind", ofLedger(ledger.Op{Kind: 4, Name: "a"}), api.ErrKind},
		{"add", add(xs(12), most), api.OK},
		{"add nothing", add("a", 0), api.ErrArg},
		{"take", take("a", 1), api.OK},
		{"a stock's op of no kind", ofStock(stock.Op{Kind: 3, Name: "a", N: 1}), api.ErrKind},
		{"the zero op", object.Op{}, api.ErrKind},
		{"of no kind", object.Op{Kind: 4, Text: insert(0, "a").Text, Ledger: open("a").Ledger, Stock: add("a", 1).Stock}, api.ErrKind},
		{"of no kind, below 0", object.Op{Kind: -1, Text: insert(0, "a").Text}, api.ErrKind},
	} {
		if got := x.op.Check(x.op.Kind); got != x.want {
			t.Errorf("%s: %v, want %v", x.name, got, x.want)
		}
		for _, kind := range all {
			if got := x.op.Check(kind); kind != x.op.Kind && got != api.ErrKind {
				t.Errorf("%s, of a %d: %v", x.name, kind, got)
			}
		}
	}
}

// P8.1: an op's bytes, whether it may be or not.
func TestPut(t *testing.T) {
	for _, x := range []struct {
		name string
		op   object.Op
		want string
	}{
		{"insert", insert(3, "ab"), "\x01\x01\x03\x02ab"},
		{"delete", cut(128, 2), "\x01\x02\x81\x00\x02"},
		{"delete below 0", cut(-1, -1), "\x01\x02\x00\x00"},
		{"a text's op of kind 0", ofText(text.Op{}), "\x01\x00\x00\x00"},
		{"open", open("a"), "\x02\x01\x01a"},
		{"close", shut("a"), "\x02\x02\x01a"},
		{"move", move("a", "", 300), "\x02\x03\x01a\x00\x82\x2c"},
		{"add", add("nut", 5), "\x03\x01\x03nut\x05"},
		{"take", take("nut", 5), "\x03\x02\x03nut\x05"},
		{"a stock's op of kind 300", ofStock(stock.Op{Kind: 300, Name: "a", N: -5}), "\x03\x82\x2c\x01a\x00"},
	} {
		var w wire.Writer
		w.Str("before")
		x.op.Put(&w)
		if got := w.Text(); got != "\x06before"+x.want {
			t.Errorf("%s: %x", x.name, got)
		}
	}
}

// P8.1: bytes that are an op; what is behind them is left.
func TestTake(t *testing.T) {
	for _, x := range []struct {
		bytes string
		want  object.Op
	}{
		{"\x01\x01\x03\x02ab", insert(3, "ab")},
		{"\x01\x02\x03\x02", cut(3, 2)},
		{"\x02\x01\x01a", open("a")},
		{"\x02\x02\x01a", shut("a")},
		{"\x02\x03\x00\x01a\x03", move("", "a", 3)},
		{"\x03\x01\x03nut\x05", add("nut", 5)},
		{"\x03\x02\x03nut\x05", take("nut", 5)},
	} {
		r := wire.Read(x.bytes + "\x07")
		if got := object.Take(r); got != x.want || r.Err() != api.OK {
			t.Errorf("%x: %+v, %v", x.bytes, got, r.Err())
		}
		if left := r.Num(); left != 7 || r.End() != api.OK {
			t.Errorf("%x: %d is left, %v", x.bytes, left, r.End())
		}
	}
}

// P8.1: bytes that aren't an op: the first error is the reader's, and nothing is left.
func TestTakeWrong(t *testing.T) {
	for _, x := range []struct {
		name, bytes string
		want        api.Errno
	}{
		{"nothing", "", api.ErrEnd},
		{"half a kind", "\x81", api.ErrEnd},
		{"kind 0", "\x00", api.ErrForm},
		{"kind 0, else an op", "\x00\x01\x03nut\x05", api.ErrForm},
		{"kind 4", "\x04\x01\x03nut\x05", api.ErrBig},
		{"kind 4 alone", "\x04", api.ErrBig},
		{"kind 2^63", "\x81\x80\x80\x80\x80\x80\x80\x80\x80\x00", api.ErrBig},
		{"kind in another spelling", "\x80\x03\x01\x03nut\x05", api.ErrForm},
		{"a kind alone", "\x01", api.ErrEnd},
		{"a text's op, half there", "\x01\x01\x03\x02a", api.ErrEnd},
		{"a text's op of kind 3", "\x01\x03\x00\x01", api.ErrBig},
		{"a text's op of kind 0", "\x01\x00\x00\x01", api.ErrKind},
		{"insert nothing", "\x01\x01\x00\x00", api.ErrArg},
		{"a ledger's op, half there", "\x02\x03\x01a", api.ErrEnd},
		{"a ledger's op of kind 4", "\x02\x04\x01a", api.ErrBig},
		{"a ledger's op of kind 0", "\x02\x00\x01a", api.ErrKind},
		{"open the house", "\x02\x01\x00", api.ErrArg},
		{"a stock's op, half there", "\x03\x01\x03nut", api.ErrEnd},
		{"a stock's op of kind 3", "\x03\x03\x03nut\x05", api.ErrBig},
		{"a stock's op of kind 0", "\x03\x00\x03nut\x05", api.ErrKind},
		{"add nothing", "\x03\x01\x03nut\x00", api.ErrArg},
	} {
		tail := "\x07\x07"
		if x.want == api.ErrEnd {
			tail = ""
		}
		r := wire.Read(x.bytes + tail)
		if got := object.Take(r); got != (object.Op{}) || r.Err() != x.want {
			t.Errorf("%s: %+v, %v", x.name, got, r.Err())
		}
		if r.Num() != 0 || r.End() != x.want {
			t.Errorf("%s: then %v", x.name, r.End())
		}
	}
}

// P8.1: behind an error of the reader's, nothing is taken; that error stays.
func TestTakeBehindAnError(t *testing.T) {
	r := wire.Read("\x03\x01\x03nut\x05")
	r.Fail(api.ErrBusy)
	if got := object.Take(r); got != (object.Op{}) || r.Err() != api.ErrBusy {
		t.Errorf("%+v, %v", got, r.Err())
	}
}

// P8.1, K3: what is answered stays, whatever is done then.
func TestAnswersStay(t *testing.T) {
	x := load(t, object.Text, "\x06abcdef")
	bytes, r := x.Save(), x.Do(cut(1, 2))
	do(t, x, insert(1, "XYZ"), cut(0, 4))
	if bytes != "\x06abcdef" || r.Gone != "bc" || x.Save() != "\x03def" {
		t.Errorf("%x, %q, %x", bytes, r.Gone, x.Save())
	}
}

// someOp is an op of a kind that mostly may be, of few names.
func someOp(rnd *rand.Rand, kind, few int) object.Op {
	name := func() string { return string(rune('a' + rnd.Intn(few))) }
	n := rnd.Intn(5)
	if rnd.Intn(6) == 0 {
		n = most - rnd.Intn(3)
	}
	switch kind*10 + rnd.Intn(8) {
	case 10, 11, 12, 13:
		return insert(rnd.Intn(few), strings.Repeat(name(), rnd.Intn(15)))
	case 14, 15, 16, 17:
		return cut(rnd.Intn(few), rnd.Intn(15))
	case 20, 21:
		return open(name())
	case 22:
		return shut(name())
	case 23, 24:
		return move("", name(), n)
	case 25:
		return move(name(), "", n)
	case 26, 27:
		return move(name(), name(), n)
	case 30, 31, 32, 33:
		return take(name(), n)
	}
	return add(name(), n)
}

// P8.2: BACK: behind each op that was OK its Inverse is OK, and makes the object what it was; behind the Inverse its own one does the op again.
func TestBack(t *testing.T) {
	rnd := rand.New(rand.NewSource(82))
	for _, kind := range kinds {
		met := map[api.Errno]int{}
		for i := range 200 {
			x := object.New(kind)
			for range 100 {
				before := x.Save()
				o := someOp(rnd, kind, 2+i%24)
				r := x.Do(o)
				met[r.Err]++
				after := x.Save()
				if r.Err != api.OK {
					if r.Gone != "" || after != before {
						t.Fatalf("%+v of %x: %+v, and %x is there", o, before, r, after)
					}
					continue
				}
				back := o.Inverse(r)
				again := x.Do(back)
				if again.Err != api.OK || x.Save() != before {
					t.Fatalf("%+v of %x: back: %+v, and %x is there", o, before, again, x.Save())
				}
				if back.Inverse(again) != o {
					t.Fatalf("%+v: back and forth: %+v", o, back.Inverse(again))
				}
				do(t, x, o)
				if x.Save() != after {
					t.Fatalf("%+v of %x: again: %x", o, before, x.Save())
				}
			}
		}
		if met[api.OK] < 1000 || len(met) < 3 {
			t.Errorf("%d: met %v", kind, met)
		}
	}
}

// P8.2: BACK at the edges: of what is full, and of what is emptied.
func TestBackAtTheEdges(t *testing.T) {
	for _, x := range []struct {
		kind   int
		before string
		op     object.Op
	}{
		{object.Text, "\x81\x48" + xs(200), cut(160, 40)},
		{object.Text, "\x81\x20" + xs(160), insert(160, xs(40))},
		{object.Text, "\x28" + xs(40), cut(0, 40)},
		{object.Ledger, some(16), move("a", "", 1)},
		{object.Ledger, "\x01\x01a\x00", shut("a")},
		{object.Ledger, "\x01\x01a\x00", move("", "a", most)},
		{object.Stock, some(16), take("a", 1)},
		{object.Stock, some(15), add("z", most)},
		{object.Stock, "\x01\x01a\x01", take("a", 1)},
	} {
		y := load(t, x.kind, x.before)
		r := y.Do(x.op)
		if r.Err != api.OK {
			t.Fatalf("%+v: %v", x.op, r.Err)
		}
		do(t, y, x.op.Inverse(r))
		if y.Save() != x.before {
			t.Errorf("%+v: back: %x", x.op, y.Save())
		}
	}
}

// names is how many names an object has: the first number of its bytes.
func names(x object.State) int {
	return int(wire.Read(x.Save()).Num())
}

// P8.3: APART: two ops that are Apart, both done OK, one behind the other, come to the same the other way round, when there are at most 14 names ahead of them.
func TestApartEitherWay(t *testing.T) {
	rnd := rand.New(rand.NewSource(83))
	met := map[[3]int]int{}
	ahead := map[int]int{}
	for range 100000 {
		kind := object.Ledger + rnd.Intn(2)
		few := 2 + rnd.Intn(24)
		x := object.New(kind)
		for range rnd.Intn(60) {
			x.Do(someOp(rnd, kind, few))
		}
		if names(x) > 14 {
			continue
		}
		a, b := someOp(rnd, kind, few), someOp(rnd, kind, few)
		one, other := x.Clone(), x.Clone()
		if !object.Apart(a, b) || one.Do(a).Err != api.OK || one.Do(b).Err != api.OK {
			continue
		}
		do(t, other, b, a)
		if one.Save() != other.Save() {
			t.Fatalf("%+v, %+v of %x: %x, %x", a, b, x.Save(), one.Save(), other.Save())
		}
		met[[3]int{kind, a.Ledger.Kind + a.Stock.Kind, b.Ledger.Kind + b.Stock.Kind}]++
		ahead[names(x)]++
	}
	if len(met) != 3*3+2*2 || ahead[14] == 0 {
		t.Errorf("met %v, with %v names ahead", met, ahead)
	}
}

// P8.3: APART at the edge: 14 names, and two more.
func TestApartAtTheEdge(t *testing.T) {
	for _, x := range []struct {
		kind int
		a, b object.Op
	}{
		{object.Ledger, open("y"), open("z")},
		{object.Stock, add("y", most), add("z", 1)},
	} {
		one := load(t, x.kind, some(14))
		other := one.Clone()
		do(t, one, x.a, x.b)
		do(t, other, x.b, x.a)
		if !object.Apart(x.a, x.b) || one.Save() != other.Save() || names(one) != 16 {
			t.Errorf("%+v, %+v: %x, %x", x.a, x.b, one.Save(), other.Save())
		}
	}
}

// P8.4: there and back: each op that may be, and each object.
func TestThereAndBack(t *testing.T) {
	rnd := rand.New(rand.NewSource(84))
	for _, kind := range kinds {
		x := object.New(kind)
		for range 3000 {
			o := someOp(rnd, kind, 20)
			x.Do(o)
			if y := load(t, kind, x.Save()); y.Clone().Save() != x.Save() {
				t.Fatalf("%x: %x", x.Save(), y.Clone().Save())
			}
			var w wire.Writer
			o.Put(&w)
			r := wire.Read(w.Text())
			got := object.Take(r)
			if o.Check(kind) != api.OK {
				o = object.Op{}
			}
			if got != o || (r.End() == api.OK) != (o != object.Op{}) {
				t.Fatalf("%+v: %+v, %v", o, got, r.End())
			}
		}
	}
}

// P8.4: bytes that are an op are the only ones of it.
func TestBackAndThere(t *testing.T) {
	rnd := rand.New(rand.NewSource(48))
	ops := map[int]int{}
	for range 200000 {
		b := make([]byte, 3+rnd.Intn(6))
		for i := range b {
			b[i] = byte(rnd.Intn(4))
		}
		if rnd.Intn(2) == 0 {
			b[rnd.Intn(len(b))] = byte(rnd.Intn(256))
		}
		r := wire.Read(string(b))
		o := object.Take(r)
		if r.End() != api.OK {
			continue
		}
		ops[o.Kind]++
		var w wire.Writer
		o.Put(&w)
		if w.Text() != string(b) || o.Check(o.Kind) != api.OK {
			t.Fatalf("%x: %+v, %x", b, o, w.Text())
		}
	}
	for _, kind := range kinds {
		if ops[kind] < 100 {
			t.Errorf("of the kind %d only %d were ops", kind, ops[kind])
		}
	}
}

// P1: nothing panics, whatever op is handed in, and what has to be wrong with it is answered.
func TestAnyOp(t *testing.T) {
	var ops []object.Op
	for _, kind := range all {
		for _, inner := range []int{math.MinInt, -1, 0, 1, 2, 3, 4, math.MaxInt} {
			for _, n := range []int{math.MinInt, -1, 0, 1, 40, 41, most, most + 1, math.MaxInt} {
				for _, s := range []string{"", "a", xs(13), xs(300)} {
					ops = append(ops, object.Op{
						Kind:   kind,
						Text:   text.Op{Kind: inner, At: n, S: s, N: n},
						Ledger: ledger.Op{Kind: inner, Name: s, To: "a", Amount: n},
						Stock:  stock.Op{Kind: inner, Name: s, N: n},
					})
				}
			}
		}
	}
	for i, o := range ops {
		o.Inverse(object.Result{Gone: xs(i)})
		object.Apart(o, ops[len(ops)-1-i])
		var w wire.Writer
		o.Put(&w)
		r := wire.Read(w.Text())
		if got := object.Take(r); (got == object.Op{}) == (r.Err() == api.OK) {
			t.Fatalf("%+v: %+v, %v", o, got, r.Err())
		}
		for _, kind := range kinds {
			x := object.New(kind)
			if got := x.Do(o); got.Err != o.Check(kind) && o.Check(kind) != api.OK {
				t.Fatalf("%+v, of a %d: %+v, want %v", o, kind, got, o.Check(kind))
			}
		}
	}
}
