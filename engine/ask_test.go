package engine_test

import (
	"math"
	"math/rand"
	"strings"
	"testing"

	"hindsight/api"
	"hindsight/command"
	"hindsight/engine"
	"hindsight/fault"
	"hindsight/wire"
)

// numbers are some that a reading ask may have.
var numbers = []int{0, 1, -1, 2, 63, 64, -64, -65, 300, 1 << 20, 1<<20 + 1, -1 << 40, math.MaxInt, math.MinInt, math.MinInt + 1}

// numbered is a text of bytes behind how many they are.
func numbered(s string) string {
	var w wire.Writer
	return w.Str(s).Text()
}

// P24.1: the kinds of asks.
func TestKinds(t *testing.T) {
	if engine.Change != 1 || engine.AsOf != 2 || engine.Head != 3 || engine.Leaf != 4 || engine.Prefix != 5 {
		t.Error("the kinds of asks")
	}
}

// P24.1: the bytes of asks, also of those that may not be.
func TestText(t *testing.T) {
	ab := insert(0, 0, "ab")
	for _, x := range []struct {
		a    engine.Ask
		want string
	}{
		{change(ab), "\x01\x08\x01\x00\x01\x01\x00\x02ab"},
		{change(undo(1, 300)), "\x01\x04\x02\x01\x82\x2c"},
		{change(command.Command{}), "\x01\x03\x00\x00\x00"},
		{change(command.Command{Kind: -5, B: -1, N: -7}), "\x01\x03\x00\x00\x00"},
		{engine.Ask{Kind: engine.Change, C: ab, B: 5, V: 6, N: 7}, "\x01\x08\x01\x00\x01\x01\x00\x02ab"},
		{asOf(0, 0), "\x02\x00\x00\x00"},
		{asOf(1, 2), "\x02\x02\x04\x00"},
		{head(-1), "\x03\x01\x00\x00"},
		{leaf(1, -1, 300), "\x04\x02\x01\x84\x58"},
		{prefix(64, -64, -65), "\x05\x81\x00\x7f\x81\x01"},
		{leaf(math.MaxInt, math.MinInt, -1), "\x04\x81\xff\xff\xff\xff\xff\xff\xff\xff\x7e\x81\xff\xff\xff\xff\xff\xff\xff\xff\x7f\x01"},
		{engine.Ask{Kind: engine.Head, C: ab, V: 3}, "\x03\x00\x06\x00"},
		{engine.Ask{}, "\x00\x00\x00\x00"},
		{engine.Ask{Kind: -1, B: 1, C: ab}, "\x00\x02\x00\x00"},
		{engine.Ask{Kind: math.MinInt, N: -1}, "\x00\x00\x00\x01"},
		{engine.Ask{Kind: 6, V: 1}, "\x06\x00\x02\x00"},
		{engine.Ask{Kind: 300}, "\x82\x2c\x00\x00\x00"},
	} {
		if got := x.a.Text(); got != x.want {
			t.Errorf("Text of %+v: %x, want %x", x.a, got, x.want)
		}
	}
}

// P24.1: asks that may be: any numbers in one that reads.
func TestCheck(t *testing.T) {
	for _, c := range []command.Command{insert(0, 0, "a"), cut(1<<20, 200, 40), open(1, "a"), move(0, "", "a", 1), add(0, "nut", 1), take(0, "nut", 1), undo(1, 2), fork(0, 1<<20), forward(2, 1), retain(0, 0)} {
		if e := change(c).Check(); e != api.OK {
			t.Errorf("Check of a Change %+v: %v", c, e)
		}
	}
	for kind := engine.AsOf; kind <= engine.Prefix; kind++ {
		for _, b := range numbers {
			for _, v := range numbers {
				for _, n := range numbers {
					if e := (engine.Ask{Kind: kind, B: b, V: v, N: n}).Check(); e != api.OK {
						t.Fatalf("Check of %d, %d, %d, %d: %v", kind, b, v, n, e)
					}
				}
			}
		}
	}
}

// P24.1, K2: asks that may not be: first the kind, then what is too much, then the command.
func TestCheckErrors(t *testing.T) {
	a := insert(0, 0, "a")
	for _, kind := range []int{0, -1, 6, 7, 256, math.MinInt, math.MaxInt} {
		for _, x := range []engine.Ask{{Kind: kind}, {Kind: kind, C: a}, {Kind: kind, B: 1, V: 1, N: 1, C: command.Command{Kind: 9}}} {
			if e := x.Check(); e != api.ErrKind {
				t.Errorf("Check of %+v: %v", x, e)
			}
		}
	}
	for _, c := range []command.Command{a, {}, {Kind: 6}, undo(-1, 0), {Kind: command.Fork, A: 1}} {
		for _, n := range []int{1, -1, math.MaxInt, math.MinInt} {
			for _, x := range []engine.Ask{{Kind: engine.Change, C: c, B: n}, {Kind: engine.Change, C: c, V: n}, {Kind: engine.Change, C: c, N: n}} {
				if e := x.Check(); e != api.ErrForm {
					t.Errorf("Check of %+v: %v", x, e)
				}
			}
		}
	}
	op := command.Command{}
	op.Op.Stock.Name = "nut"
	for kind := engine.AsOf; kind <= engine.Prefix; kind++ {
		for _, c := range []command.Command{a, op, {Kind: 1}, {Kind: -1}, {B: 1}, {A: 1}, {N: -1}, {Op: a.Op}} {
			for _, n := range []int{0, 3} {
				if e := (engine.Ask{Kind: kind, C: c, B: n, V: n, N: n}).Check(); e != api.ErrForm {
					t.Errorf("Check of %d with %+v: %v", kind, c, e)
				}
			}
		}
	}
	for _, c := range []command.Command{{}, {Kind: 6}, undo(-1, 0), fork(0, 1<<20+1), {Kind: command.Forward, N: 1}, {Kind: command.Do}, add(0, "", 1), add(0, "nut", 0), insert(0, 0, ""), cut(0, 0, 41), move(0, "a", "a", 1)} {
		if e := change(c).Check(); e != c.Check() || e == api.OK {
			t.Errorf("Check of a Change %+v: %v, want %v", c, e, c.Check())
		}
	}
}

// P24.5: asks that may be are the same behind there and back.
func TestThereAndBack(t *testing.T) {
	r := rand.New(rand.NewSource(245))
	had := map[int]int{}
	for i := range 3000 {
		a := someAsk(r, kinds[i%3])
		if r.Intn(2) == 0 && a.Kind != engine.Change {
			a.B, a.V, a.N = numbers[r.Intn(len(numbers))], r.Int()-r.Int(), numbers[r.Intn(len(numbers))]
		}
		if a.Check() != api.OK {
			t.Fatalf("%+v: %v", a, a.Check())
		}
		if b, err := engine.Parse(a.Text()); b != a || err != nil {
			t.Fatalf("%+v, and back %+v, %v", a, b, err)
		}
		had[a.Kind]++
	}
	for kind := engine.Change; kind <= engine.Prefix; kind++ {
		if had[kind] < 100 {
			t.Errorf("kind %d only %d times", kind, had[kind])
		}
	}
}

// P24.1: the error of a command that may not be is its Parse's.
func TestParseOfWrongCommands(t *testing.T) {
	for _, c := range []command.Command{add(0, "", 0), insert(0, 0, ""), move(0, "a", "a", 1), fork(1<<20+1, 0), {Kind: 6}, {}, {Kind: command.Do}} {
		_, err := command.Parse(c.Text())
		parseIs(t, change(c).Text(), fault.Of(err))
		parseIs(t, change(c).Text()+"x", fault.Of(err))
	}
}

// parseIs looks whether bytes say nothing, by that error.
func parseIs(t *testing.T, s string, want api.Errno) {
	t.Helper()
	a, err := engine.Parse(s)
	isFault(t, "Parse", err, "ask", len(s), want)
	if a != (engine.Ask{}) {
		t.Fatalf("Parse of %x: %+v beside %v", s, a, err)
	}
}

// P24.1, K2: bytes that say nothing: the errors of the bytes, then of the command, then the kind, then what is left.
func TestParseErrors(t *testing.T) {
	nine := strings.Repeat("\xff", 9)
	for _, x := range []struct {
		s    string
		want api.Errno
	}{
		{"", api.ErrEnd},
		{"\x80", api.ErrForm},
		{"\x80\x02\x00\x00\x00", api.ErrForm},
		{"\x81", api.ErrEnd},
		{"\x06", api.ErrBig},
		{"\x06\x00\x00\x00", api.ErrBig},
		{"\x82\x00\x00\x00\x00", api.ErrBig},
		{nine + "\xff\x7f\x00\x00\x00", api.ErrForm},
		{"\x02", api.ErrEnd},
		{"\x02\x00", api.ErrEnd},
		{"\x03\x00\x00", api.ErrEnd},
		{"\x03\x00\x00\x80\x00", api.ErrForm},
		{"\x03\x00\x80\x00\x00", api.ErrForm},
		{"\x03\x80\x00\x00\x00", api.ErrForm},
		{"\x04" + nine + "\xff\x7f\x00\x00", api.ErrForm},
		{"\x05\x00\x00\x00\x00", api.ErrForm},
		{"\x02\x02\x04\x00x", api.ErrForm},
		{"\x00\x00\x00\x00", api.ErrKind},
		{"\x00\x02\x04\x06", api.ErrKind},
		{"\x00\x00\x00\x00\x00", api.ErrKind},
		{"\x00", api.ErrEnd},
		{"\x00\x00\x00", api.ErrEnd},
		{"\x00\x00\x80\x00", api.ErrForm},
		{"\x01", api.ErrEnd},
		{"\x01\x80", api.ErrForm},
		{"\x01\x03\x02\x00", api.ErrEnd},
		{"\x01\x88\x00", api.ErrEnd},
		{"\x01\x88\x01", api.ErrBig},
		{"\x01\x88\x01" + strings.Repeat("\x00", 1025), api.ErrBig},
		{"\x01\x88\x00\x01" + strings.Repeat("\x00", 1022), api.ErrEnd},
		{"\x01\x88\x00\x06" + strings.Repeat("\x00", 1023), api.ErrBig},
		{"\x01\x88\x00" + strings.Repeat("\x00", 1024), api.ErrKind},
		{"\x01\x00", api.ErrEnd},
		{"\x01\x00x", api.ErrEnd},
		{"\x01\x01\x09", api.ErrBig},
		{"\x01\x01\x09x", api.ErrBig},
		{"\x01\x03\x00\x00\x00", api.ErrKind},
		{"\x01\x03\x00\x00\x00x", api.ErrKind},
		{"\x01\x03\x03\x00\x80", api.ErrForm},
		{"\x01\x04\x03\x00\x05x", api.ErrForm},
		{"\x01\x03\x03\x00\x05x", api.ErrForm},
		{"\x01\x02\x03\x00\x05", api.ErrEnd},
		{"\x01\x05\x03\x00\xc0\x80\x01", api.ErrBig},
		{"\x01\x03\x01\x00\x04", api.ErrBig},
		{"\x01\x03\x01\x00\x00", api.ErrForm},
	} {
		parseIs(t, x.s, x.want)
	}
}

// P24.5: of the bytes of an ask no part says anything, nor do more of them; and what says something says it in one way.
func TestOneWay(t *testing.T) {
	r := rand.New(rand.NewSource(2450))
	said := 0
	for i := range 400 {
		s := someAsk(r, kinds[i%3]).Text()
		for n := range len(s) {
			parseIs(t, s[:n], api.ErrEnd)
		}
		parseIs(t, s+"\x00", api.ErrForm)
		for range 20 {
			b := []byte(s)
			b[r.Intn(len(b))] ^= 1 << r.Intn(8)
			a, err := engine.Parse(string(b))
			if err == nil {
				said++
				if a.Text() != string(b) {
					t.Fatalf("%x: %+v, whose bytes are %x", b, a, a.Text())
				}
			} else {
				parseIs(t, string(b), fault.Of(err))
			}
		}
	}
	if said < 1000 {
		t.Errorf("only %d say something", said)
	}
}

// P24.1: the bytes of replies.
func TestReply(t *testing.T) {
	for _, x := range []struct {
		e    api.Errno
		s    string
		want string
	}{
		{api.OK, "", "\x00\x00"},
		{api.OK, "ab", "\x00\x02ab"},
		{api.ErrFull, "", "\x07\x00"},
		{api.ErrBusy, "x", "\x14\x01x"},
		{-1, "x", "\x00\x01x"},
		{math.MinInt, "", "\x00\x00"},
		{300, "", "\x82\x2c\x00"},
		{math.MaxInt, "", strings.Repeat("\xff", 8) + "\x7f\x00"},
		{api.OK, "\x00\xff", "\x00\x02\x00\xff"},
		{api.ErrEnd, strings.Repeat("long", 5000), "\x01" + numbered(strings.Repeat("long", 5000))},
	} {
		if got := engine.Reply(x.e, x.s); got != x.want {
			t.Errorf("Reply of %d, %.20q: %.40x, want %.40x", x.e, x.s, got, x.want)
		}
	}
}

// P24.5: what a reply says is there, and nothing else.
func TestReplyAndBack(t *testing.T) {
	for e := api.OK; e <= api.ErrBusy; e++ {
		for _, s := range []string{"", "a", "\x00", strings.Repeat("\xff", 200)} {
			r := wire.Read(engine.Reply(e, s))
			if n, back := api.Errno(r.Upto(int(api.ErrBusy))), r.Str(1<<20); n != e || back != s || r.End() != api.OK {
				t.Errorf("Reply of %v, %q: back %v, %q, %v", e, s, n, back, r.Err())
			}
		}
	}
}
