package command_test

import (
	"errors"
	"math"
	"math/rand"
	"slices"
	"strconv"
	"strings"
	"testing"

	"hindsight/api"
	"hindsight/command"
	"hindsight/fault"
	"hindsight/ledger"
	"hindsight/object"
	"hindsight/stock"
	"hindsight/text"
)

// most is the greatest number that a command may speak of.
const most = 1 << 20

// kinds are all that there are of objects.
var kinds = []int{object.Text, object.Ledger, object.Stock}

// edges are numbers that may not be, or that no line has, and no version.
var edges = []int{math.MinInt, math.MinInt + 1, -1 << 32, -2, -1, 17, 300, most, most + 1, 1 << 32, math.MaxInt - 1, math.MaxInt}

func insert(b, at int, s string) command.Command {
	return command.Command{Kind: command.Do, B: b, Op: object.Op{Kind: object.Text, Text: text.Op{Kind: text.Insert, At: at, S: s}}}
}

func cut(b, at, n int) command.Command {
	return command.Command{Kind: command.Do, B: b, Op: object.Op{Kind: object.Text, Text: text.Op{Kind: text.Delete, At: at, N: n}}}
}

func ofLedger(b int, o ledger.Op) command.Command {
	return command.Command{Kind: command.Do, B: b, Op: object.Op{Kind: object.Ledger, Ledger: o}}
}

func open(b int, name string) command.Command {
	return ofLedger(b, ledger.Op{Kind: ledger.Open, Name: name})
}

func move(b int, from, to string, amount int) command.Command {
	return ofLedger(b, ledger.Op{Kind: ledger.Move, Name: from, To: to, Amount: amount})
}

func add(b int, name string, n int) command.Command {
	return command.Command{Kind: command.Do, B: b, Op: object.Op{Kind: object.Stock, Stock: stock.Op{Kind: stock.Add, Name: name, N: n}}}
}

func take(b int, name string, n int) command.Command {
	return command.Command{Kind: command.Do, B: b, Op: object.Op{Kind: object.Stock, Stock: stock.Op{Kind: stock.Take, Name: name, N: n}}}
}

func undo(b, n int) command.Command {
	return command.Command{Kind: command.Undo, B: b, N: n}
}

func fork(b, n int) command.Command {
	return command.Command{Kind: command.Fork, B: b, N: n}
}

func forward(b, a int) command.Command {
	return command.Command{Kind: command.Forward, B: b, A: a}
}

func retain(b, n int) command.Command {
	return command.Command{Kind: command.Retain, B: b, N: n}
}

// is looks whether an error is the one that is wanted: in the same steps, at the same places.
func is(t *testing.T, name string, err, want error) {
	t.Helper()
	if want == nil {
		if err != nil {
			t.Fatalf("%s: %v", name, err)
		}
		return
	}
	if err == nil || err.Error() != want.Error() || !errors.Is(err, fault.Of(want)) || fault.Path(err) != fault.Path(want) {
		t.Fatalf("%s: %v, want %v", name, err, want)
	}
}

// written are commands that may be, and their bytes.
func written() map[string]command.Command {
	return map[string]command.Command{
		"\x01\x00\x01\x01\x00\x02ab":                               insert(0, 0, "ab"),
		"\x01\x0f\x01\x01\x81\x48\x01\x00":                         insert(15, 200, "\x00"),
		"\x01\x03\x01\x02\x07\x28":                                 cut(3, 7, 40),
		"\x01\x00\x02\x01\x01a":                                    open(0, "a"),
		"\x01\x82\x2c\x02\x03\x00\x01b\x05":                        move(300, "", "b", 5),
		"\x01\xc0\x80\x00\x03\x01\x03nut\x05":                      add(most, "nut", 5),
		"\x01\x01\x03\x02\x0ctwelve bytes\xa0\x80\x80\x80\x80\x00": take(1, "twelve bytes", 1<<40),
		"\x02\x00\x00":                                             undo(0, 0),
		"\x02\x01\x82\x2c":                                         undo(1, 300),
		"\x03\xc0\x80\x00\xc0\x80\x00":                             fork(most, most),
		"\x04\x02\x82\x2c":                                         forward(2, 300),
		"\x04\x00\xc0\x80\x00":                                     forward(0, most),
		"\x05\x81\x00\x7f":                                         retain(128, 127),
	}
}

// P22.1, P22.2: a command's bytes, and back.
func TestText(t *testing.T) {
	for s, c := range written() {
		if c.Text() != s || c.Check() != api.OK {
			t.Errorf("%+v: %x, %v, want %x", c, c.Text(), c.Check(), s)
		}
		if back, err := command.Parse(s); back != c || err != nil {
			t.Errorf("Parse(%x): %+v, %v, want %+v", s, back, err, c)
		}
	}
}

// P22.1: a kind writes what it speaks of alone; of a kind that is none, N; what is below 0 is written as 0.
func TestTextOfWrong(t *testing.T) {
	op := add(0, "nut", 5).Op
	below := func(o object.Op) command.Command { return command.Command{Kind: command.Do, B: math.MinInt, Op: o} }
	for i, x := range []struct {
		c command.Command
		s string
	}{
		{command.Command{}, "\x00\x00\x00"},
		{command.Command{Kind: -7, B: -1, A: 4, N: math.MinInt, Op: op}, "\x00\x00\x00"},
		{command.Command{Kind: 300, B: 2, A: 4, N: 5, Op: op}, "\x82\x2c\x02\x05"},
		{command.Command{Kind: command.Do, B: 1, A: 7, N: 8, Op: op}, "\x01\x01\x03\x01\x03nut\x05"},
		{command.Command{Kind: command.Undo, B: 1, A: 7, N: 8, Op: op}, "\x02\x01\x08"},
		{command.Command{Kind: command.Fork, B: 1, A: 7, N: 8, Op: op}, "\x03\x01\x08"},
		{command.Command{Kind: command.Forward, B: 1, A: 7, N: 8, Op: op}, "\x04\x01\x07"},
		{command.Command{Kind: command.Retain, B: 1, A: 7, N: 8, Op: op}, "\x05\x01\x08"},
		{command.Command{Kind: command.Forward, B: -1, A: -1, N: 9}, "\x04\x00\x00"},
		{command.Command{Kind: command.Retain, B: -1, A: 9, N: -1}, "\x05\x00\x00"},
		{command.Command{Kind: command.Undo, N: math.MaxInt}, "\x02\x00\xff\xff\xff\xff\xff\xff\xff\xff\x7f"},
		{below(object.Op{}), "\x01\x00\x00"},
		{below(object.Op{Kind: math.MinInt, Text: text.Op{Kind: 1}}), "\x01\x00\x00"},
		{below(object.Op{Kind: 4}), "\x01\x00\x04"},
		{below(object.Op{Kind: object.Text, Text: text.Op{Kind: -1, At: -2, N: -3}}), "\x01\x00\x01\x00\x00\x00"},
		{below(object.Op{Kind: object.Ledger, Ledger: ledger.Op{Kind: math.MinInt, Name: "a"}}), "\x01\x00\x02\x00\x01a"},
		{below(object.Op{Kind: object.Ledger, Ledger: ledger.Op{Kind: ledger.Move, Amount: -1}}), "\x01\x00\x02\x03\x00\x00\x00"},
		{below(object.Op{Kind: object.Stock, Stock: stock.Op{Kind: -1, N: -1}}), "\x01\x00\x03\x00\x00\x00"},
	} {
		was := x.c
		if s := x.c.Text(); s != x.s || x.c != was {
			t.Errorf("%d: %x, want %x", i, s, x.s)
		}
	}
}

// P22.1: which commands may be, and what is said first of those that may not.
func TestCheck(t *testing.T) {
	op := add(0, "nut", 5).Op
	for i, x := range []struct {
		c command.Command
		e api.Errno
	}{
		{command.Command{}, api.ErrKind},
		{command.Command{Kind: 6}, api.ErrKind},
		{command.Command{Kind: -1, B: -1, A: -1, N: -1, Op: op}, api.ErrKind},
		{command.Command{Kind: math.MaxInt}, api.ErrKind},
		{command.Command{Kind: math.MinInt}, api.ErrKind},
		{undo(most, most), api.OK},
		{fork(0, most), api.OK},
		{forward(most, most), api.OK},
		{retain(most, 0), api.OK},
		{undo(most+1, 0), api.ErrArg},
		{undo(-1, 0), api.ErrArg},
		{fork(0, most+1), api.ErrArg},
		{fork(0, -1), api.ErrArg},
		{forward(0, most+1), api.ErrArg},
		{forward(0, -1), api.ErrArg},
		{retain(math.MinInt, math.MaxInt), api.ErrArg},
		{add(-1, "nut", 5), api.ErrArg},
		{command.Command{Kind: command.Undo, A: -1}, api.ErrArg}, // also what the kind doesn't speak of
		{command.Command{Kind: command.Forward, N: most + 1}, api.ErrArg},
		{command.Command{Kind: command.Do, B: 1, A: 1, N: -1}, api.ErrArg},
		{command.Command{Kind: command.Retain, A: 1, N: -1, Op: op}, api.ErrArg},
		{command.Command{Kind: command.Do, A: 1, Op: op}, api.ErrForm},
		{command.Command{Kind: command.Do, N: 1, Op: op}, api.ErrForm},
		{command.Command{Kind: command.Do, N: 1}, api.ErrForm}, // that comes ahead of what is wrong with the op
		{command.Command{Kind: command.Undo, A: 1, N: 1}, api.ErrForm},
		{command.Command{Kind: command.Fork, A: most}, api.ErrForm},
		{command.Command{Kind: command.Forward, A: 1, N: 1}, api.ErrForm},
		{command.Command{Kind: command.Retain, A: 1}, api.ErrForm},
		{command.Command{Kind: command.Undo, Op: op}, api.ErrForm},
		{command.Command{Kind: command.Fork, Op: object.Op{Kind: 1}}, api.ErrForm},
		{command.Command{Kind: command.Forward, Op: object.Op{Text: text.Op{S: "a"}}}, api.ErrForm},
		{command.Command{Kind: command.Retain, Op: object.Op{Ledger: ledger.Op{Amount: 1}}}, api.ErrForm},
		{command.Command{Kind: command.Retain, Op: object.Op{Stock: stock.Op{Name: "a"}}}, api.ErrForm},
		{add(most, "nut", 5), api.OK},
		{insert(0, 200, strings.Repeat("a", 40)), api.OK},
		{move(0, "", "a", 1<<40), api.OK},
		{command.Command{Kind: command.Do}, api.ErrKind},
		{command.Command{Kind: command.Do, Op: object.Op{Kind: 4}}, api.ErrKind},
		{command.Command{Kind: command.Do, Op: object.Op{Kind: -1}}, api.ErrKind},
		{command.Command{Kind: command.Do, Op: object.Op{Kind: object.Text}}, api.ErrKind},
		{command.Command{Kind: command.Do, Op: object.Op{Kind: object.Ledger, Stock: op.Stock}}, api.ErrKind},
		{insert(0, 201, "a"), api.ErrArg},
		{insert(0, 0, ""), api.ErrArg},
		{cut(0, 0, 41), api.ErrArg},
		{move(0, "a", "a", 1), api.ErrArg},
		{add(0, "nut", 0), api.ErrArg},
	} {
		if e := x.c.Check(); e != x.e {
			t.Errorf("%d: %v, want %v", i, e, x.e)
		}
	}
}

// P22.1: what bytes are no command, and what is said first.
func TestParseErrors(t *testing.T) {
	for s, e := range map[string]api.Errno{
		"":                     api.ErrEnd,
		"\x01":                 api.ErrEnd,
		"\x00":                 api.ErrEnd,
		"\x00\x00":             api.ErrEnd,
		"\x00\x00\x00":         api.ErrKind,
		"\x00\x00\x00\x00":     api.ErrKind, // something is left, too
		"\x00\xc0\x80\x01\x00": api.ErrBig,
		"\x00\x00\xc0\x80\x01": api.ErrBig,
		"\x06":                 api.ErrBig,
		"\x06\x00\x00":         api.ErrBig,
		"\x80":                 api.ErrForm,
		"\x80\x01\x00\x00":     api.ErrForm,
		"\x81":                 api.ErrEnd,
		"\x02\x00":             api.ErrEnd,
		"\x02\x00\x82":         api.ErrEnd,
		"\x02\x80\x00":         api.ErrForm,
		"\x02\xc0\x80\x01\x00": api.ErrBig,
		"\x02\xc0\x80\x01":     api.ErrBig, // that comes ahead of what is wanting
		"\x03\x00\xc0\x80\x01": api.ErrBig,
		"\x04\x00\xc0\x80\x01": api.ErrBig,
		"\x05\x00\xff\xff\xff\xff\xff\xff\xff\xff\x7f": api.ErrBig,
		"\x04\x00":                            api.ErrEnd,
		"\x02\x00\x00\x00":                    api.ErrForm,
		"\x04\x00\x00\x00":                    api.ErrForm,
		"\x05\x00\x00a":                       api.ErrForm,
		"\x01\x00":                            api.ErrEnd,
		"\x01\x00\x00":                        api.ErrForm,
		"\x01\x00\x04":                        api.ErrBig,
		"\x01\x00\x01\x00\x00\x01":            api.ErrKind,
		"\x01\x00\x01\x03":                    api.ErrBig,
		"\x01\x00\x01\x01\x00\x00":            api.ErrArg,
		"\x01\x00\x01\x01\x00\x29":            api.ErrBig,
		"\x01\x00\x01\x01\x00\x02a":           api.ErrEnd,
		"\x01\x00\x02\x01\x0dnutnutnutnutn":   api.ErrBig,
		"\x01\x00\x02\x01\x00":                api.ErrArg,
		"\x01\x00\x03\x01\x03nut\x00":         api.ErrArg,
		"\x01\x00\x03\x01\x03nut\x05\x00":     api.ErrForm,
		"\x01\xc0\x80\x01\x03\x01\x03nut\x05": api.ErrBig,
	} {
		c, err := command.Parse(s)
		is(t, "Parse", err, fault.In("command", len(s), e))
		if c != (command.Command{}) {
			t.Errorf("Parse(%x): %+v beside an error", s, c)
		}
	}
	_, err := command.Parse("\x02\x00\x00a")
	if err == nil || err.Error() != "command 4: form" {
		t.Errorf("Parse: %v", err)
	}
}

// P22.2: there and back: bytes that say a command are its own ones alone, and it may be; and the other way round.
func TestThereAndBack(t *testing.T) {
	r := rand.New(rand.NewSource(22))
	had := 0
	for s := range written() {
		for n := range len(s) + 1 {
			for x := range 256 {
				for _, other := range []string{s[:n] + string([]byte{byte(x)}) + s[min(n+1, len(s)):], s[:n] + string([]byte{byte(x)}) + s[n:], s[:n]} {
					if back(t, other) {
						had++
					}
				}
			}
		}
	}
	for range 20000 {
		b := make([]byte, r.Intn(9))
		for i := range b {
			b[i] = byte(r.Intn(6) * r.Intn(2) * (1 + r.Intn(2)*r.Intn(50)))
		}
		if back(t, string(b)) {
			had++
		}
	}
	if had < 10000 {
		t.Errorf("only %d commands", had)
	}
	for range 2000 {
		c := some(r, kinds[r.Intn(3)], 1+r.Intn(most), 1+r.Intn(most))
		if c.Check() != api.OK {
			continue
		}
		if other, err := command.Parse(c.Text()); other != c || err != nil {
			t.Fatalf("%+v: %+v, %v", c, other, err)
		}
	}
}

// back looks whether bytes are those of the command that they say; false: they say none.
func back(t *testing.T, s string) bool {
	t.Helper()
	c, err := command.Parse(s)
	if err != nil {
		if steps, at := fault.Where(err); !slices.Equal(steps, []string{"command"}) || at != len(s) || c != (command.Command{}) {
			t.Fatalf("Parse(%x): %+v, %v", s, c, err)
		}
		return false
	}
	if c.Text() != s || c.Check() != api.OK {
		t.Fatalf("Parse(%x): %+v, whose bytes are %x", s, c, c.Text())
	}
	return true
}

// some is any command for a table of a kind of object, of lines and versions below some.
func some(r *rand.Rand, kind, lines, versions int) command.Command {
	name := func() string { return string(rune('a' + r.Intn(4))) }
	b, n := r.Intn(lines), r.Intn(versions)
	switch x := r.Intn(16); {
	case x < 3:
		return undo(b, n)
	case x == 3:
		return fork(b, n)
	case x < 6:
		return forward(b, r.Intn(lines))
	case x == 6:
		return retain(b, n)
	case kind == object.Text && x < 9:
		return cut(b, r.Intn(20), 1+r.Intn(6))
	case kind == object.Text:
		return insert(b, r.Intn(20), strings.Repeat(name(), 1+r.Intn(9)))
	case kind == object.Ledger && x < 11:
		return open(b, name())
	case kind == object.Ledger:
		return move(b, []string{"", name()}[r.Intn(2)], name(), 1+r.Intn(9))
	case x < 10:
		return take(b, name(), 1+r.Intn(9))
	}
	return add(b, name(), 1+r.Intn(9))
}

// P22.1, P22.2: an answer's bytes, and back.
func TestAnswer(t *testing.T) {
	forty := strings.Repeat("x", 40)
	for s, a := range map[string]command.Answer{
		"\x00\x00\x00":             {},
		"\x14\x00\x00":             {Err: api.ErrBusy},
		"\x00\x82\x2c\x02\x00\xff": {At: 300, Gone: "\x00\xff"},
		"\x00\xc0\x80\x00\x00":     {At: most},
		"\x03\x07\x28" + forty:     {Err: api.ErrBig, At: 7, Gone: forty},
	} {
		if a.Text() != s {
			t.Errorf("%+v: %x, want %x", a, a.Text(), s)
		}
		if back, err := command.ParseAnswer(s); back != a || err != nil {
			t.Errorf("ParseAnswer(%x): %+v, %v", s, back, err)
		}
	}
	for s, a := range map[string]command.Answer{
		"\x00\x00\x01a":                          {Err: -1, At: -1, Gone: "a"},
		"\x00\x00\x00":                           {Err: math.MinInt, At: math.MinInt},
		"\x82\x2c\xc0\x80\x01\x29" + forty + "x": {Err: 300, At: most + 1, Gone: forty + "x"},
	} {
		if a.Text() != s {
			t.Errorf("%+v: %x, want %x", a, a.Text(), s)
		}
	}
}

// P22.1: what bytes are no answer, and what is said first.
func TestAnswerErrors(t *testing.T) {
	for s, e := range map[string]api.Errno{
		"":                                       api.ErrEnd,
		"\x00":                                   api.ErrEnd,
		"\x00\x00":                               api.ErrEnd,
		"\x00\x00\x01":                           api.ErrEnd,
		"\x00\x00\x28a":                          api.ErrEnd,
		"\x15":                                   api.ErrBig,
		"\x15\x00\x00\x00":                       api.ErrBig,
		"\x80\x00\x00":                           api.ErrForm,
		"\x00\xc0\x80\x01":                       api.ErrBig,
		"\x00\x00\x29" + strings.Repeat("x", 41): api.ErrBig,
		"\x00\x00\x29":                           api.ErrBig,
		"\x00\x00\x00\x00":                       api.ErrForm,
		"\x00\x00\x01ab":                         api.ErrForm,
	} {
		a, err := command.ParseAnswer(s)
		is(t, "ParseAnswer", err, fault.In("answer", len(s), e))
		if a != (command.Answer{}) {
			t.Errorf("ParseAnswer(%x): %+v beside an error", s, a)
		}
	}
	_, err := command.ParseAnswer("\x00")
	if err == nil || err.Error() != "answer 1: end" {
		t.Errorf("ParseAnswer: %v", err)
	}
}

// P22.2: bytes that say an answer are its own ones alone.
func TestAnswerThereAndBack(t *testing.T) {
	for e := range api.ErrBusy + 1 {
		for _, at := range []int{0, 1, 127, 128, most - 1, most} {
			for n := range 41 {
				a := command.Answer{Err: e, At: at, Gone: strings.Repeat(strconv.Itoa(n%10), n)}
				if back, err := command.ParseAnswer(a.Text()); back != a || err != nil {
					t.Fatalf("%+v: %+v, %v", a, back, err)
				}
			}
		}
	}
	had := 0
	for x := range 1 << 24 {
		if x%251 != 0 && x > 1<<18 {
			continue
		}
		s := string([]byte{byte(x >> 16), byte(x >> 8), byte(x)})
		if a, err := command.ParseAnswer(s); err == nil {
			had++
			if a.Text() != s {
				t.Fatalf("ParseAnswer(%x): %+v, whose bytes are %x", s, a, a.Text())
			}
		}
	}
	if had < 100 {
		t.Errorf("only %d answers", had)
	}
}
