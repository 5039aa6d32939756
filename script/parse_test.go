package script_test

import (
	"errors"
	"math/rand"
	"reflect"
	"regexp"
	"slices"
	"strconv"
	"strings"
	"testing"

	"hindsight/api"
	"hindsight/command"
	"hindsight/engine"
	"hindsight/fault"
	"hindsight/ledger"
	"hindsight/object"
	"hindsight/script"
	"hindsight/stock"
	"hindsight/text"
)

func change(c command.Command) engine.Ask {
	return engine.Ask{Kind: engine.Change, C: c}
}

func do(b int, o object.Op) engine.Ask {
	return change(command.Command{Kind: command.Do, B: b, Op: o})
}

func edit(b int, o text.Op) engine.Ask {
	return do(b, object.Op{Kind: object.Text, Text: o})
}

func book(b int, o ledger.Op) engine.Ask {
	return do(b, object.Op{Kind: object.Ledger, Ledger: o})
}

func shelve(b int, o stock.Op) engine.Ask {
	return do(b, object.Op{Kind: object.Stock, Stock: o})
}

// isFault looks whether an error is one fault, behind which that one stands.
func isFault(t *testing.T, name string, err error, step string, at int, behind error) {
	t.Helper()
	var f *fault.Fault
	if !errors.As(err, &f) || error(f) != err || f.Step != step || f.At != at || !reflect.DeepEqual(f.Err, behind) {
		t.Fatalf("%s: %v, want %s %d: %v", name, err, step, at, behind)
	}
}

// lineIs looks what a line says.
func lineIs(t *testing.T, s string, want script.Line) {
	t.Helper()
	x, err := script.ParseLine(s)
	if err != nil || !reflect.DeepEqual(x, want) {
		t.Fatalf("ParseLine(%q): %+v, %v, want %+v", s, x, err, want)
	}
}

// lineFails looks that a line says nothing, and why.
func lineFails(t *testing.T, s, step string, at int, want api.Errno) {
	t.Helper()
	x, err := script.ParseLine(s)
	isFault(t, "ParseLine of "+strconv.Quote(s), err, step, at, want)
	if !reflect.DeepEqual(x, script.Line{}) {
		t.Fatalf("ParseLine(%q): %+v beside %v", s, x, err)
	}
}

// P26.1: how many lines a script has at most.
func TestMaxLines(t *testing.T) {
	if script.MaxLines != 200 {
		t.Error(script.MaxLines)
	}
}

// P26.1, K3, K4: all verbs, and what begins picks, rising; anew each time.
func TestVerbs(t *testing.T) {
	want := []string{"add", "asof", "close", "delete", "fork", "forward", "head", "insert", "leaf", "move", "open", "pick", "prefix", "retain", "take", "undo"}
	for range 20 {
		got := script.Verbs()
		if !slices.Equal(got, want) {
			t.Fatalf("Verbs: %q", got)
		}
		clear(got)
	}
}

// P26.1: what each verb asks.
func TestParseLine(t *testing.T) {
	for _, x := range []struct {
		s    string
		who  int
		want engine.Ask
	}{
		{"0 insert 0 0 a", 0, edit(0, text.Op{Kind: text.Insert, At: 0, S: "a"})},
		{"7 insert 3 200 z09", 7, edit(3, text.Op{Kind: text.Insert, At: 200, S: "z09"})},
		{"1 insert 0 5 0", 1, edit(0, text.Op{Kind: text.Insert, At: 5, S: "0"})},
		{"1 insert 0 5 " + strings.Repeat("x", 40), 1, edit(0, text.Op{Kind: text.Insert, At: 5, S: strings.Repeat("x", 40)})},
		{"63 delete 2 199 40", 63, edit(2, text.Op{Kind: text.Delete, At: 199, N: 40})},
		{"0 delete 0 0 1", 0, edit(0, text.Op{Kind: text.Delete, N: 1})},
		{"2 open 4 anne", 2, book(4, ledger.Op{Kind: ledger.Open, Name: "anne"})},
		{"2 open 4 007", 2, book(4, ledger.Op{Kind: ledger.Open, Name: "007"})},
		{"2 close 0 twelveletter", 2, book(0, ledger.Op{Kind: ledger.Close, Name: "twelveletter"})},
		{"0 move 1 a b 7", 0, book(1, ledger.Op{Kind: ledger.Move, Name: "a", To: "b", Amount: 7})},
		{"0 move 1 - b 7", 0, book(1, ledger.Op{Kind: ledger.Move, To: "b", Amount: 7})},
		{"0 move 1 a - 9999999", 0, book(1, ledger.Op{Kind: ledger.Move, Name: "a", Amount: 9999999})},
		{"5 add 0 nut 5", 5, shelve(0, stock.Op{Kind: stock.Add, Name: "nut", N: 5})},
		{"5 add 0 5 6", 5, shelve(0, stock.Op{Kind: stock.Add, Name: "5", N: 6})},
		{"5 take 1048576 bolt 9999999", 5, shelve(1<<20, stock.Op{Kind: stock.Take, Name: "bolt", N: 9999999})},
		{"0 undo 1 2", 0, change(command.Command{Kind: command.Undo, B: 1, N: 2})},
		{"0 fork 1 1048576", 0, change(command.Command{Kind: command.Fork, B: 1, N: 1 << 20})},
		{"0 retain 1 2", 0, change(command.Command{Kind: command.Retain, B: 1, N: 2})},
		{"0 forward 1 2", 0, change(command.Command{Kind: command.Forward, B: 1, A: 2})},
		{"0 asof 1 2", 0, engine.Ask{Kind: engine.AsOf, B: 1, V: 2}},
		{"0 asof 9999999 9999999", 0, engine.Ask{Kind: engine.AsOf, B: 9999999, V: 9999999}},
		{"0 head 1", 0, engine.Ask{Kind: engine.Head, B: 1}},
		{"0 leaf 1 2 3", 0, engine.Ask{Kind: engine.Leaf, B: 1, V: 2, N: 3}},
		{"9999999 prefix 1 2 3", 9999999, engine.Ask{Kind: engine.Prefix, B: 1, V: 2, N: 3}},
		{"0 leaf 1 3 2", 0, engine.Ask{Kind: engine.Leaf, B: 1, V: 3, N: 2}},
	} {
		lineIs(t, x.s, script.Line{Who: x.who, Ask: x.want})
	}
}

// P26.1: picks, in their order, as often as they stand there.
func TestParsePicks(t *testing.T) {
	lineIs(t, "pick 0", script.Line{Picks: []int{0}})
	lineIs(t, "pick 1 0 0 9999999 63 1", script.Line{Picks: []int{1, 0, 0, 9999999, 63, 1}})
	many := make([]int, 5000)
	for i := range many {
		many[i] = i % 7
	}
	lineIs(t, "pick"+said(many), script.Line{Picks: many})
}

// said are numbers, with a blank ahead of each.
func said(l []int) string {
	s := ""
	for _, n := range l {
		s += " " + strconv.Itoa(n)
	}
	return s
}

// P26.1: picks that say nothing, at the number of words behind the first one.
func TestPickErrors(t *testing.T) {
	for _, x := range []struct {
		s  string
		at int
	}{
		{"pick", 0},
		{"pick ", 1},
		{"pick  ", 2},
		{"pick  0", 2},
		{"pick 0 ", 2},
		{"pick x", 1},
		{"pick 1 x", 2},
		{"pick x 1 1", 3},
		{"pick 1 2 3 4 05 6", 6},
		{"pick 10000000", 1},
		{"pick -1", 1},
		{"pick 0\n", 1},
		{"pick 0\t1", 1},
		{"pick add 0 nut 5", 4},
		{"pick" + strings.Repeat(" 1", 999) + " x", 1000},
	} {
		lineFails(t, x.s, "pick", x.at, api.ErrForm)
	}
}

// P26.1: what isn't a number, as a process, a pick, and behind a verb.
func TestNumbers(t *testing.T) {
	for _, s := range []string{"0", "1", "9", "10", "99", "100", "1048576", "9999999", "1000000", "1234567"} {
		n, _ := strconv.Atoi(s)
		lineIs(t, "pick "+s, script.Line{Picks: []int{n}})
		lineIs(t, s+" leaf "+s+" "+s+" "+s, script.Line{Who: n, Ask: engine.Ask{Kind: engine.Leaf, B: n, V: n, N: n}})
	}
	for _, s := range []string{"", "00", "01", "007", "10000000", "12345678", "00000000", "-1", "-0", "-", "+1", "1a", "a1", "0x1", "1_0", "1.", "1e3", "٣", "１", "1\x00", "\xff", "1\xff", "/", ":", "1/", "1:", "\t1", "1\n", "one"} {
		lineFails(t, "pick "+s, "pick", 1, api.ErrForm)
		lineFails(t, s+" head 0", "who", 0, api.ErrForm)
		lineFails(t, "0 head "+s, "words", 2, api.ErrForm)
		lineFails(t, "0 leaf "+s+" 0 0", "words", 2, api.ErrForm)
		lineFails(t, "0 leaf 0 "+s+" 0", "words", 2, api.ErrForm)
		lineFails(t, "0 leaf 0 0 "+s, "words", 2, api.ErrForm)
		lineFails(t, "0 move 0 a b "+s, "words", 2, api.ErrForm)
	}
}

// P26.1: what isn't a word; the house is one of a move's two alone.
func TestWords(t *testing.T) {
	for _, s := range []string{"a", "z", "0", "9", "00", "az09", "0a", "x1y2", "pick", "house"} {
		lineIs(t, "0 open 0 "+s, script.Line{Ask: book(0, ledger.Op{Kind: ledger.Open, Name: s})})
		lineIs(t, "0 insert 0 0 "+s, script.Line{Ask: edit(0, text.Op{Kind: text.Insert, S: s})})
		lineIs(t, "0 move 0 "+s+" - 1", script.Line{Ask: book(0, ledger.Op{Kind: ledger.Move, Name: s, Amount: 1})})
	}
	wrong := []string{"", "A", "Z", "aB", "é", "aé", "ß", "a-b", "a_b", "a.", "`", "{", "/", ":", "a`", "a{", "9/", "9:", "\x00", "a\x00", "\xff", "a\xff", "a\n", "a\r", "a\t", "--", "-a", "a-", "٣"}
	for _, s := range wrong {
		lineFails(t, "0 move 0 "+s+" b 1", "words", 2, api.ErrForm)
		lineFails(t, "0 move 0 b "+s+" 1", "words", 2, api.ErrForm)
	}
	for _, s := range append(wrong, "-") {
		lineFails(t, "0 insert 0 0 "+s, "words", 2, api.ErrForm)
		lineFails(t, "0 open 0 "+s, "words", 2, api.ErrForm)
		lineFails(t, "0 close 0 "+s, "words", 2, api.ErrForm)
		lineFails(t, "0 add 0 "+s+" 1", "words", 2, api.ErrForm)
		lineFails(t, "0 take 0 "+s+" 1", "words", 2, api.ErrForm)
	}
}

// P26.1, K2: lines that say nothing: first of the process, then of the verb, then of its words, then of the ask.
func TestLineErrors(t *testing.T) {
	for _, x := range []struct {
		s    string
		step string
		at   int
		want api.Errno
	}{
		{"", "who", 0, api.ErrForm},
		{" ", "who", 0, api.ErrForm},
		{"0", "who", 0, api.ErrForm},
		{"x", "who", 0, api.ErrForm},
		{" 0 head 0", "who", 0, api.ErrForm},
		{"x jump", "who", 0, api.ErrForm},
		{"x head 0", "who", 0, api.ErrForm},
		{"Pick 0", "who", 0, api.ErrForm},
		{"picks 0", "who", 0, api.ErrForm},
		{"pick\t0", "who", 0, api.ErrForm},
		{"head 0", "who", 0, api.ErrForm},
		{"\n", "who", 0, api.ErrForm},
		{"0 ", "verb", 1, api.ErrKind},
		{"0  head 0", "verb", 1, api.ErrKind},
		{"0 jump", "verb", 1, api.ErrKind},
		{"0 jump 0 0", "verb", 1, api.ErrKind},
		{"0 pick 0", "verb", 1, api.ErrKind},
		{"0 pick", "verb", 1, api.ErrKind},
		{"0 Head 0", "verb", 1, api.ErrKind},
		{"0 head\t0", "verb", 1, api.ErrKind},
		{"0 heads 0", "verb", 1, api.ErrKind},
		{"0 hea 0", "verb", 1, api.ErrKind},
		{"0 0 head", "verb", 1, api.ErrKind},
		{"0 asOf 0 1", "verb", 1, api.ErrKind},
		{"0 head", "words", 2, api.ErrForm},
		{"0 head ", "words", 2, api.ErrForm},
		{"0 head 0 ", "words", 2, api.ErrForm},
		{"0 head 0 0", "words", 2, api.ErrForm},
		{"0 head  0", "words", 2, api.ErrForm},
		{"0 open 0 A", "words", 2, api.ErrForm},
		{"0 add 0 nut 5 5", "words", 2, api.ErrForm},
		{"0 add nut 0 5", "words", 2, api.ErrForm},
		{"0 insert 0 a 0", "words", 2, api.ErrForm},
		{"0 move 0 a b", "words", 2, api.ErrForm},
		{"0 insert 0 999 " + strings.Repeat("A", 41), "words", 2, api.ErrForm},
		{"0 insert 0 0 " + strings.Repeat("x", 41), "ask", 2, api.ErrArg},
		{"0 insert 0 201 x", "ask", 2, api.ErrArg},
		{"0 insert 1048577 0 x", "ask", 2, api.ErrArg},
		{"0 delete 0 0 0", "ask", 2, api.ErrArg},
		{"0 delete 0 0 41", "ask", 2, api.ErrArg},
		{"0 delete 0 201 1", "ask", 2, api.ErrArg},
		{"0 open 0 thirteenchars", "ask", 2, api.ErrArg},
		{"0 close 0 thirteenchars", "ask", 2, api.ErrArg},
		{"0 close 9999999 a", "ask", 2, api.ErrArg},
		{"0 move 0 - - 5", "ask", 2, api.ErrArg},
		{"0 move 0 a a 5", "ask", 2, api.ErrArg},
		{"0 move 0 a b 0", "ask", 2, api.ErrArg},
		{"0 move 0 thirteenchars b 1", "ask", 2, api.ErrArg},
		{"0 move 0 b thirteenchars 1", "ask", 2, api.ErrArg},
		{"0 add 0 nut 0", "ask", 2, api.ErrArg},
		{"0 add 0 thirteenchars 1", "ask", 2, api.ErrArg},
		{"0 take 0 nut 0", "ask", 2, api.ErrArg},
		{"0 undo 0 1048577", "ask", 2, api.ErrArg},
		{"0 undo 1048577 0", "ask", 2, api.ErrArg},
		{"0 fork 0 1048577", "ask", 2, api.ErrArg},
		{"0 retain 0 9999999", "ask", 2, api.ErrArg},
		{"0 forward 0 1048577", "ask", 2, api.ErrArg},
		{"0 forward 1048577 0", "ask", 2, api.ErrArg},
	} {
		lineFails(t, x.s, x.step, x.at, x.want)
	}
}

// P26.1: each verb has as many words as it has, no more, no less.
func TestHowManyWords(t *testing.T) {
	lines := []string{"0 insert 0 0 a", "0 delete 0 0 1", "0 open 0 a", "0 close 0 a", "0 move 0 - a 1", "0 add 0 a 1", "0 take 0 a 1", "0 undo 0 0", "0 fork 0 0", "0 retain 0 0", "0 forward 0 1", "0 asof 0 0", "0 head 0", "0 leaf 0 0 1", "0 prefix 0 0 1"}
	for _, s := range lines {
		if _, err := script.ParseLine(s); err != nil {
			t.Fatalf("%q: %v", s, err)
		}
		for _, more := range []string{" ", " 0", " a", " 0 0", " a 1 1"} {
			lineFails(t, s+more, "words", 2, api.ErrForm)
		}
		for less := s[:strings.LastIndex(s, " ")]; strings.Count(less, " ") > 0; less = less[:strings.LastIndex(less, " ")] {
			lineFails(t, less, "words", 2, api.ErrForm)
		}
	}
	if len(lines)+1 != len(script.Verbs()) {
		t.Errorf("%d verbs were looked at", len(lines))
	}
}

// form is how one verb's line is written, and what it asks, in a second telling.
type form struct {
	line *regexp.Regexp
	ask  func(l []string) engine.Ask
}

// num is a number that stands there.
func num(s string) int {
	n, _ := strconv.Atoi(s)
	return n
}

// forms are told by patterns: N a number, W a word, H a word or the house.
func forms() map[string]form {
	house := func(s string) string { return strings.TrimPrefix(s, "-") }
	written := map[string]struct {
		words string
		ask   func(l []string) engine.Ask
	}{
		"insert": {"N N W", func(l []string) engine.Ask {
			return edit(num(l[0]), text.Op{Kind: text.Insert, At: num(l[1]), S: l[2]})
		}},
		"delete": {"N N N", func(l []string) engine.Ask {
			return edit(num(l[0]), text.Op{Kind: text.Delete, At: num(l[1]), N: num(l[2])})
		}},
		"open":  {"N W", func(l []string) engine.Ask { return book(num(l[0]), ledger.Op{Kind: ledger.Open, Name: l[1]}) }},
		"close": {"N W", func(l []string) engine.Ask { return book(num(l[0]), ledger.Op{Kind: ledger.Close, Name: l[1]}) }},
		"move": {"N H H N", func(l []string) engine.Ask {
			return book(num(l[0]), ledger.Op{Kind: ledger.Move, Name: house(l[1]), To: house(l[2]), Amount: num(l[3])})
		}},
		"add": {"N W N", func(l []string) engine.Ask {
			return shelve(num(l[0]), stock.Op{Kind: stock.Add, Name: l[1], N: num(l[2])})
		}},
		"take": {"N W N", func(l []string) engine.Ask {
			return shelve(num(l[0]), stock.Op{Kind: stock.Take, Name: l[1], N: num(l[2])})
		}},
		"undo": {"N N", func(l []string) engine.Ask {
			return change(command.Command{Kind: command.Undo, B: num(l[0]), N: num(l[1])})
		}},
		"fork": {"N N", func(l []string) engine.Ask {
			return change(command.Command{Kind: command.Fork, B: num(l[0]), N: num(l[1])})
		}},
		"retain": {"N N", func(l []string) engine.Ask {
			return change(command.Command{Kind: command.Retain, B: num(l[0]), N: num(l[1])})
		}},
		"forward": {"N N", func(l []string) engine.Ask {
			return change(command.Command{Kind: command.Forward, B: num(l[0]), A: num(l[1])})
		}},
		"asof": {"N N", func(l []string) engine.Ask { return engine.Ask{Kind: engine.AsOf, B: num(l[0]), V: num(l[1])} }},
		"head": {"N", func(l []string) engine.Ask { return engine.Ask{Kind: engine.Head, B: num(l[0])} }},
		"leaf": {"N N N", func(l []string) engine.Ask {
			return engine.Ask{Kind: engine.Leaf, B: num(l[0]), V: num(l[1]), N: num(l[2])}
		}},
		"prefix": {"N N N", func(l []string) engine.Ask {
			return engine.Ask{Kind: engine.Prefix, B: num(l[0]), V: num(l[1]), N: num(l[2])}
		}},
	}
	pattern := strings.NewReplacer("N", "(0|[1-9][0-9]{0,6})", "W", "([a-z0-9]+)", "H", "([a-z0-9]+|-)")
	l := map[string]form{}
	for verb, x := range written {
		l[verb] = form{regexp.MustCompile(`\A` + pattern.Replace("N "+verb+" "+x.words) + `\z`), x.ask}
	}
	return l
}

var (
	picksForm = regexp.MustCompile(`\Apick( (0|[1-9][0-9]{0,6}))+\z`)
	whoForm   = regexp.MustCompile(`\A(0|[1-9][0-9]{0,6}) `)
)

// told is what a line says, told anew; in a step, or in none.
func told(l map[string]form, s string) (script.Line, string, int, api.Errno) {
	words := strings.Split(s, " ")
	switch {
	case picksForm.MatchString(s):
		var picks []int
		for _, x := range words[1:] {
			picks = append(picks, num(x))
		}
		return script.Line{Picks: picks}, "", 0, api.OK
	case words[0] == "pick":
		return script.Line{}, "pick", len(words) - 1, api.ErrForm
	case !whoForm.MatchString(s):
		return script.Line{}, "who", 0, api.ErrForm
	}
	x, ok := l[words[1]]
	if !ok {
		return script.Line{}, "verb", 1, api.ErrKind
	}
	if !x.line.MatchString(s) {
		return script.Line{}, "words", 2, api.ErrForm
	}
	a := x.ask(words[2:])
	if e := a.Check(); e != api.OK {
		return script.Line{}, "ask", 2, e
	}
	return script.Line{Who: num(words[0]), Ask: a}, "", 0, api.OK
}

// P26.1: any lines, most of which are nearly such as say something, against a second telling.
func TestAnyLines(t *testing.T) {
	l := forms()
	r := rand.New(rand.NewSource(261))
	pieces := append(script.Verbs(), "0", "1", "2", "40", "41", "200", "201", "1048576", "1048577", "9999999", "10000000", "00", "-", "a", "nut", "twelveletter", "thirteenchars", "A", "", "é")
	had := map[string]int{}
	for range 200000 {
		words := []string{pieces[16+r.Intn(4)], pieces[r.Intn(16)]}
		for range r.Intn(5) {
			words = append(words, pieces[16+r.Intn(len(pieces)-16)])
		}
		if r.Intn(9) == 0 {
			words[r.Intn(len(words))] = pieces[r.Intn(len(pieces))]
		}
		if r.Intn(9) == 0 {
			words = words[r.Intn(2):]
		}
		b := []byte(strings.Join(words, " "))
		if r.Intn(9) == 0 && len(b) > 0 {
			b[r.Intn(len(b))] ^= 1 << r.Intn(8)
		}
		s := string(b)
		want, step, at, e := told(l, s)
		had[step]++
		if e != api.OK {
			lineFails(t, s, step, at, e)
			continue
		}
		lineIs(t, s, want)
		if len(want.Picks) == 0 {
			had[words[1]]++
		}
	}
	for _, word := range append(script.Verbs(), "", "who", "verb", "words", "ask") {
		if word != "pick" && had[word] < 20 {
			t.Errorf("%q only %d times", word, had[word])
		}
	}
}

// parseIs looks what lines say.
func parseIs(t *testing.T, s string, want ...script.Line) {
	t.Helper()
	l, err := script.Parse(s)
	if err != nil || len(l) != len(want) || len(l) > 0 && !reflect.DeepEqual(l, want) {
		t.Fatalf("Parse(%q): %+v, %v, want %+v", s, l, err, want)
	}
}

// P26.1: lines, each of which is ended, the last one or not.
func TestParse(t *testing.T) {
	pick, head := script.Line{Picks: []int{0, 1}}, script.Line{Who: 3, Ask: engine.Ask{Kind: engine.Head, B: 7}}
	parseIs(t, "")
	parseIs(t, "pick 0 1", pick)
	parseIs(t, "pick 0 1\n", pick)
	parseIs(t, "3 head 7", head)
	parseIs(t, "3 head 7\npick 0 1", head, pick)
	parseIs(t, "3 head 7\npick 0 1\n3 head 7\n", head, pick, head)
	many := make([]script.Line, 200)
	for i := range many {
		many[i] = pick
	}
	s := strings.Repeat("pick 0 1\n", 200)
	parseIs(t, s, many...)
	parseIs(t, s[:len(s)-1], many...)
}

// P26.1: the first line that says nothing, by its number, behind which ParseLine's error stands.
func TestParseErrors(t *testing.T) {
	for _, x := range []struct {
		s  string
		at int
	}{
		{"\n", 0},
		{"\n\n", 0},
		{"x", 0},
		{"pick 0\n\n", 1},
		{"pick 0\n\npick 0", 1},
		{"pick 0\npick\n", 1},
		{"pick 0\r\npick 0", 0},
		{"pick 0\npick 0\n0 add 0 nut 0\n0 jump\n", 2},
		{"0 head 0\n0 jump\n0 head", 1},
		{strings.Repeat("pick 0\n", 199) + "0 move 0 - - 1", 199},
		{strings.Repeat("pick 0\n", 199) + "\n", 199},
		{strings.Repeat("\n", 200), 0},
	} {
		_, behind := script.ParseLine(strings.Split(x.s, "\n")[x.at])
		l, err := script.Parse(x.s)
		isFault(t, "Parse of "+strconv.Quote(x.s), err, "line", x.at, behind)
		if behind == nil || l != nil {
			t.Errorf("%q: %+v beside %v", x.s, l, err)
		}
	}
}

// P26.1, K2: too many lines, which is said ahead of what is wrong with one.
func TestParseTooMany(t *testing.T) {
	for _, x := range []struct {
		s  string
		at int
	}{
		{strings.Repeat("pick 0\n", 201), 201},
		{strings.Repeat("pick 0\n", 200) + "pick 0", 201},
		{strings.Repeat("pick 0\n", 200) + "\n", 201},
		{strings.Repeat("\n", 201), 201},
		{strings.Repeat("\n", 100000) + "x", 100001},
		{"x\n" + strings.Repeat("pick\n", 300), 301},
	} {
		l, err := script.Parse(x.s)
		isFault(t, "Parse", err, "script", x.at, api.ErrBig)
		if l != nil {
			t.Errorf("%d lines beside %v", len(l), err)
		}
	}
}

// P26.1: any scripts are read line by line.
func TestParseAnyLines(t *testing.T) {
	r := rand.New(rand.NewSource(2610))
	good := []string{"pick 0", "pick 1 0", "0 head 0", "1 add 0 nut 5", "0 undo 0 0"}
	wrong := []string{"", "pick", "0 head", "x", "0 undo 0 1048577"}
	failed := 0
	for range 3000 {
		l := make([]string, r.Intn(9))
		for i := range l {
			l[i] = good[r.Intn(len(good))]
			if r.Intn(20) == 0 {
				l[i] = wrong[r.Intn(len(wrong))]
			}
		}
		s := ""
		for _, x := range l {
			s += x + "\n"
		}
		if len(l) > 0 && l[len(l)-1] != "" && r.Intn(2) == 0 {
			s = s[:len(s)-1]
		}
		bad := slices.IndexFunc(l, func(x string) bool { return slices.Contains(wrong, x) })
		if bad >= 0 {
			_, behind := script.ParseLine(l[bad])
			_, err := script.Parse(s)
			isFault(t, "Parse of "+strconv.Quote(s), err, "line", bad, behind)
			failed++
			continue
		}
		want := make([]script.Line, len(l))
		for i, x := range l {
			want[i], _ = script.ParseLine(x)
		}
		parseIs(t, s, want...)
	}
	if failed < 300 || failed > 2700 {
		t.Errorf("%d of 3000 failed", failed)
	}
}

// K3: no two lists of one answer share anything, nor do those of two.
func TestPicksShareNothing(t *testing.T) {
	l, _ := script.Parse("pick 1 2 3\npick 4 5 6\npick 1 2 3\n")
	_ = append(l[0].Picks, 7, 8, 9, 10)
	clear(l[0].Picks)
	if !slices.Equal(l[1].Picks, []int{4, 5, 6}) || !slices.Equal(l[2].Picks, []int{1, 2, 3}) {
		t.Errorf("%+v", l)
	}
	parseIs(t, "pick 1 2 3", script.Line{Picks: []int{1, 2, 3}})
}
