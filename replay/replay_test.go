package replay_test

import (
	"errors"
	"math"
	"math/rand"
	"runtime"
	"slices"
	"strconv"
	"strings"
	"testing"

	"hindsight/api"
	"hindsight/fault"
	"hindsight/ledger"
	"hindsight/object"
	"hindsight/proof"
	"hindsight/prune"
	"hindsight/replay"
	"hindsight/stock"
	"hindsight/text"
)

// kinds are all that there are.
var kinds = []int{object.Text, object.Ledger, object.Stock}

// nokinds are some that aren't there.
var nokinds = []int{math.MinInt, -3, -1, 0, 4, 300, math.MaxInt}

// edges are numbers that no line has commands for.
var edges = []int{math.MinInt, math.MinInt + 1, -1 << 32, -1, 1 << 40, math.MaxInt - 1, math.MaxInt}

func ofText(o text.Op) replay.Command {
	return replay.Command{Op: object.Op{Kind: object.Text, Text: o}}
}

func insert(at int, s string) replay.Command {
	return ofText(text.Op{Kind: text.Insert, At: at, S: s})
}

func cut(at, n int) replay.Command {
	return ofText(text.Op{Kind: text.Delete, At: at, N: n})
}

func ofLedger(o ledger.Op) replay.Command {
	return replay.Command{Op: object.Op{Kind: object.Ledger, Ledger: o}}
}

func open(name string) replay.Command {
	return ofLedger(ledger.Op{Kind: ledger.Open, Name: name})
}

func shut(name string) replay.Command {
	return ofLedger(ledger.Op{Kind: ledger.Close, Name: name})
}

func move(from, to string, amount int) replay.Command {
	return ofLedger(ledger.Op{Kind: ledger.Move, Name: from, To: to, Amount: amount})
}

func ofStock(o stock.Op) replay.Command {
	return replay.Command{Op: object.Op{Kind: object.Stock, Stock: o}}
}

func add(name string, n int) replay.Command {
	return ofStock(stock.Op{Kind: stock.Add, Name: name, N: n})
}

func take(name string, n int) replay.Command {
	return ofStock(stock.Op{Kind: stock.Take, Name: name, N: n})
}

// taking is a command that takes another one back, by its place.
func taking(place int, c replay.Command) replay.Command {
	c.Of = place + 1
	return c
}

// nuts are n commands, all unlike.
func nuts(n int) []replay.Command {
	l := make([]replay.Command, n)
	for i := range l {
		l[i] = add("nut", i+1)
	}
	return l
}

// model is what a line is held against: all commands that were done, and its floor.
type model struct {
	kind  int
	all   []replay.Command
	floor int
}

// line is a line of a model's commands, of which the elder ones went.
func (m model) line(t *testing.T) *replay.Line {
	t.Helper()
	l := replay.New(m.kind)
	do(t, l, m.all...)
	ok(t, "Retain", l.Retain(m.floor))
	return l
}

// do does commands that are to end well.
func do(t *testing.T, l *replay.Line, commands ...replay.Command) {
	t.Helper()
	for _, c := range commands {
		if r := l.Do(c); r.Err != api.OK {
			t.Fatalf("%+v: %v", c, r.Err)
		}
	}
}

// ok looks whether there is no error.
func ok(t *testing.T, name string, err error) {
	t.Helper()
	if err != nil {
		t.Errorf("%s: %v", name, err)
	}
}

// is looks whether an error is faults of steps, from outside in, at one place, with a number behind them; OK: whether there is none.
func is(t *testing.T, name string, err error, at int, want api.Errno, steps ...string) {
	t.Helper()
	if want == api.OK {
		ok(t, name, err)
		return
	}
	wanted := error(want)
	for i := range steps {
		wanted = fault.In(steps[len(steps)-1-i], at, wanted)
	}
	if err == nil || err.Error() != wanted.Error() || !errors.Is(err, want) || fault.Path(err) != fault.Path(wanted) {
		t.Errorf("%s: %v, want %v", name, err, wanted)
	}
}

// version is the object that the first commands make, one behind the other.
func (m model) version(v int) object.State {
	x := object.New(m.kind)
	for _, c := range m.all[:v] {
		x.Do(c.Op)
	}
	return x
}

// marks are the versions that are kept whole, by the document's words.
func (m model) marks() []int {
	l := []int{m.floor}
	for v := m.floor + 1; v <= len(m.all); v++ {
		if v%4 == 0 {
			l = append(l, v)
		}
	}
	return l
}

// undone is the last command that took one back; false: there is none.
func (m model) undone(i int) (int, bool) {
	for k := len(m.all) - 1; k >= 0; k-- {
		if m.all[k].Of > 0 && m.all[k].Of-1 == i {
			return k, true
		}
	}
	return 0, false
}

// wrong is what stands in the way of a place, when those from 0 on up to most are there, or were.
func (m model) wrong(i, most int) api.Errno {
	switch {
	case i < 0 || i > most:
		return api.ErrFuture
	case i < m.floor:
		return api.ErrPruned
	}
	return api.OK
}

// holds holds all of a line against the model.
func (m model) holds(t *testing.T, l *replay.Line) {
	t.Helper()
	n := len(m.all)
	if l.Kind() != m.kind || l.Len() != n || l.Floor() != m.floor {
		t.Fatalf("Kind %d, Len %d, Floor %d, want %d, %d, %d", l.Kind(), l.Len(), l.Floor(), m.kind, n, m.floor)
	}
	if s := m.version(n).Save(); l.Save() != s {
		t.Errorf("Save: %x, want %x", l.Save(), s)
	}
	if !slices.Equal(l.Marks(), m.marks()) || len(l.Marks()) > 2+(n-m.floor)/replay.Every {
		t.Errorf("Marks: %v, want %v", l.Marks(), m.marks())
	}
	for i := -2; i < n+3; i++ {
		m.tells(t, l, i)
	}
	m.proves(t, l)
}

// tells holds what a line tells of a place, and of a version, against the model.
func (m model) tells(t *testing.T, l *replay.Line, i int) {
	t.Helper()
	e, want := m.wrong(i, len(m.all)), ""
	s, err := l.AsOf(i)
	is(t, "AsOf", err, i, e, "version")
	if e == api.OK {
		want = m.version(i).Save()
	} else {
		m.refuses(t, l, i, e)
	}
	if s != want {
		t.Errorf("AsOf(%d): %x, want %x", i, s, want)
	}
	e = m.wrong(i, len(m.all)-1)
	c, err := l.Command(i)
	is(t, "Command", err, i, e, "command")
	r, err := l.Result(i)
	is(t, "Result", err, i, e, "command")
	if e == api.OK && (c != m.all[i] || r != m.version(i).Do(m.all[i].Op)) || e != api.OK && (c != replay.Command{} || r != object.Result{}) {
		t.Errorf("of %d: %+v, %+v", i, c, r)
	}
	at, was := l.Undone(i)
	if wantAt, want := m.undone(i); at != wantAt || was != want {
		t.Errorf("Undone(%d): %d, %v, want %d, %v", i, at, was, wantAt, want)
	}
}

// refuses looks whether a version that isn't there is refused.
func (m model) refuses(t *testing.T, l *replay.Line, v int, e api.Errno) {
	t.Helper()
	is(t, "Retain", l.Retain(v), v, e, "retain", "version")
	b, err := l.Branch(v)
	is(t, "Branch", err, v, e, "branch")
	if b != nil {
		t.Errorf("Branch(%d) beside an error", v)
	}
}

// proves holds the calls of the line's vault against a vault of the commands' bytes.
func (m model) proves(t *testing.T, l *replay.Line) {
	t.Helper()
	v := prune.New()
	for _, c := range m.all {
		v.Add(c.Text())
	}
	n := len(m.all)
	for i := m.floor; i <= n; i++ {
		h, err := l.Head(i)
		ok(t, "Head", err)
		if want, _ := v.Head(i); h != want {
			t.Errorf("Head(%d): %+v, want %+v", i, h, want)
		}
		now, _ := v.Head(n)
		p, err := l.Prefix(i, n)
		ok(t, "Prefix", err)
		ok(t, "Prefix proves", p.Proves("", h, now))
		if i == n {
			break
		}
		s, err := l.At(i)
		ok(t, "At", err)
		p, err = l.Leaf(i, n)
		ok(t, "Leaf", err)
		ok(t, "Leaf proves", p.Proves(s, proof.Head{}, now))
		if s != m.all[i].Text() {
			t.Errorf("At(%d): %x", i, s)
		}
	}
}

// P14.1: the chapter's example.
func TestExample(t *testing.T) {
	l := replay.New(object.Text)
	do(t, l, insert(0, "ab"), insert(0, "c"))
	if s, err := l.AsOf(1); s != "\x02ab" || err != nil {
		t.Errorf("AsOf(1): %x, %v", s, err)
	}
	if s, err := l.AsOf(2); s != "\x03cab" || err != nil {
		t.Errorf("AsOf(2): %x, %v", s, err)
	}
	ok(t, "Retain", l.Retain(1))
	s, err := l.AsOf(0)
	is(t, "AsOf", err, 0, api.ErrPruned, "version")
	if s != "" {
		t.Errorf("AsOf(0): %x", s)
	}
}

// P14.1: a line of each kind, as at first, and its own; of no other kind.
func TestNew(t *testing.T) {
	for _, kind := range kinds {
		l, other := replay.New(kind), replay.New(kind)
		m := model{kind: kind}
		m.holds(t, l)
		for _, i := range edges {
			m.tells(t, l, i)
		}
		do(t, l, firsts(kind)...)
		m.holds(t, other)
		m.all = firsts(kind)
		m.holds(t, l)
	}
	for _, kind := range nokinds {
		if l := replay.New(kind); l != nil {
			t.Errorf("a line of kind %d", kind)
		}
	}
	if replay.Every != 4 {
		t.Errorf("Every: %d", replay.Every)
	}
}

// firsts are commands of a kind that end well as the first ones.
func firsts(kind int) []replay.Command {
	switch kind {
	case object.Text:
		return []replay.Command{insert(0, "abc"), cut(1, 1), insert(2, "\x00\xff"), taking(1, insert(1, "b")), cut(0, 4), insert(0, "abc")}
	case object.Ledger:
		return []replay.Command{open("a"), open("b"), move("", "a", 5), move("a", "b", 5), taking(3, move("b", "a", 5)), shut("b")}
	}
	return []replay.Command{add("nut", 5), add("bolt", 1<<40), take("bolt", 1<<40), taking(0, take("nut", 5)), add("nut", 1), add("nut", 1)}
}

// P14.1: a command's bytes, as layers 2 and 8 say; and back.
func TestText(t *testing.T) {
	for _, x := range []struct {
		c    replay.Command
		want string
	}{
		{insert(0, "ab"), "\x00\x01\x01\x00\x02ab"},
		{taking(0, cut(200, 40)), "\x01\x01\x02\x81\x48\x28"},
		{taking(254, open("a")), "\x81\x7f\x02\x01\x01a"},
		{taking(255, move("", "b", 300)), "\x82\x00\x02\x03\x00\x01b\x82\x2c"},
		{taking(126, shut("a")), "\x7f\x02\x02\x01a"},
		{taking(127, take("nut", 5)), "\x81\x00\x03\x02\x03nut\x05"},
	} {
		if got := x.c.Text(); got != x.want {
			t.Errorf("Text of %+v: %x, want %x", x.c, got, x.want)
		}
		if c, err := replay.Parse(x.want); c != x.c || err != nil {
			t.Errorf("Parse(%x): %+v, %v", x.want, c, err)
		}
	}
	for _, of := range []int{-1, -300, math.MinInt} {
		c := add("nut", 5)
		c.Of = of
		if got := c.Text(); got != "\x00\x03\x01\x03nut\x05" {
			t.Errorf("Text of %+v: %x", c, got)
		}
	}
}

// P14.1: bytes that are no command's: each error, in the step and at the place.
func TestParseErrors(t *testing.T) {
	for _, x := range []struct {
		s    string
		want api.Errno
	}{
		{"", api.ErrEnd}, {"\x81", api.ErrEnd}, {"\x00", api.ErrEnd},
		{"\x80\x00\x03\x01\x03nut\x05", api.ErrForm}, // Of has a second spelling
		{"\x82\x01\x03\x01\x03nut\x05", api.ErrBig},  // Of is 257
		{"\x82\x01", api.ErrBig},                     // that comes ahead of what is wanting
		{"\x81\xff\xff\xff\xff\xff\xff\xff\xff\x7f", api.ErrBig},
		{"\x83\xff\xff\xff\xff\xff\xff\xff\xff\x7f", api.ErrForm}, // more than 64 bits
		{"\x00\x00", api.ErrForm},                                 // no kind
		{"\x00\x00more", api.ErrForm},
		{"\x00\x04", api.ErrBig},
		{"\x00\x01\x03\x00\x02ab", api.ErrBig},
		{"\x00\x01\x00\x00\x00", api.ErrKind},
		{"\x00\x01\x01\x00\x00", api.ErrArg},
		{"\x00\x02\x01\x00", api.ErrArg},
		{"\x00\x03\x01\x0dnutnutnutnutn\x05", api.ErrBig},
		{"\x00\x03\x01\x03nut\x00", api.ErrArg},
		{"\x00\x03\x01\x03nut\x05\x00", api.ErrForm}, // something is left
		{"\x00\x03\x01\x03nut\x00\x00", api.ErrArg},
	} {
		c, err := replay.Parse(x.s)
		is(t, strconv.Quote(x.s), err, len(x.s), x.want, "parse")
		if c != (replay.Command{}) {
			t.Errorf("Parse(%x): %+v beside an error", x.s, c)
		}
	}
}

// P14.1: of each command's bytes nothing may be wanting, and nothing be left.
func TestThereAndBack(t *testing.T) {
	for _, kind := range kinds {
		for _, c := range firsts(kind) {
			s := c.Text()
			if got, err := replay.Parse(s); got != c || err != nil {
				t.Errorf("Parse(%x): %+v, %v", s, got, err)
			}
			for i := range len(s) {
				_, err := replay.Parse(s[:i])
				is(t, "less", err, i, api.ErrEnd, "parse")
			}
			_, err := replay.Parse(s + "\x00")
			is(t, "more", err, len(s)+1, api.ErrForm, "parse")
		}
	}
}

// P14.1: whatever bytes: an error, or a command that has just these.
func TestParseAnything(t *testing.T) {
	r := rand.New(rand.NewSource(15))
	for range 20000 {
		b := []byte(firsts(kinds[r.Intn(3)])[r.Intn(6)].Text())
		for range 1 + r.Intn(3) {
			b[r.Intn(len(b))] = byte(r.Intn(256))
		}
		s := string(b[:r.Intn(len(b)+1)])
		if c, err := replay.Parse(s); err == nil && c.Text() != s || err != nil && c != (replay.Command{}) {
			t.Fatalf("Parse(%x): %+v, %v", s, c, err)
		}
	}
}

// P14.1: how commands end, and that those that don't end well change nothing.
func TestDo(t *testing.T) {
	for _, x := range []struct {
		kind  int
		c     replay.Command
		after object.Result
	}{
		{object.Text, cut(0, 2), object.Result{Gone: "ab"}},
		{object.Text, insert(2, "x"), object.Result{}},
		{object.Text, cut(5, 2), object.Result{Err: api.ErrRange}},
		{object.Text, insert(-1, "x"), object.Result{Err: api.ErrArg}},
		{object.Text, add("nut", 1), object.Result{Err: api.ErrKind}},
		{object.Text, replay.Command{}, object.Result{Err: api.ErrKind}},
		{object.Ledger, open("a"), object.Result{Err: api.ErrThere}},
		{object.Ledger, shut("a"), object.Result{Err: api.ErrShort}},
		{object.Ledger, move("a", "", 5), object.Result{}},
		{object.Ledger, insert(0, "x"), object.Result{Err: api.ErrKind}},
		{object.Stock, take("nut", 3), object.Result{Err: api.ErrShort}},
		{object.Stock, take("bolt", 1), object.Result{Err: api.ErrNone}},
		{object.Stock, add("nut", 1<<40), object.Result{Err: api.ErrOver}},
		{object.Stock, take("nut", 2), object.Result{}},
		{object.Stock, open("a"), object.Result{Err: api.ErrKind}},
	} {
		m := model{kind: x.kind, all: firsts(x.kind)}
		if x.kind == object.Text {
			m.all = append(m.all, insert(3, "de")) // abcde, and a byte ff
		}
		l := m.line(t)
		x.c.Of = 3
		if r := l.Do(x.c); r != x.after {
			t.Errorf("%+v: %+v, want %+v", x.c, r, x.after)
		}
		if x.after.Err == api.OK {
			m.all = append(m.all, x.c)
		}
		m.holds(t, l)
	}
}

// P14.1: what an op of another kind's field says isn't done, and isn't told.
func TestDoOfOneKind(t *testing.T) {
	l := replay.New(object.Stock)
	c := add("nut", 5)
	c.Op.Text = text.Op{Kind: text.Insert, S: "x"}
	do(t, l, c)
	model{kind: object.Stock, all: []replay.Command{add("nut", 5)}}.holds(t, l)
}

// P14.1: which commands were taken back, and by which one: the last one, also of branches that end ahead of others.
func TestUndone(t *testing.T) {
	all := nuts(24)
	for i, of := range []int{0, 0, 1, 1, 0, 3, 0, 0, 1, 256, 24, 1, -5, 14, 2, math.MinInt} {
		all[i].Of = of
	}
	want := []replay.Command{}
	for _, c := range all {
		c.Of = max(c.Of, 0)
		want = append(want, c)
	}
	for _, floor := range []int{0, 1, 3, 4, 8, 9, 11, 12, 23, 24} {
		l := model{kind: object.Stock, all: all}.line(t)
		ok(t, "Retain", l.Retain(floor/2))
		ok(t, "Retain", l.Retain(floor))
		for v := floor; v <= len(all); v++ {
			b, err := l.Branch(v)
			ok(t, "Branch", err)
			m := model{object.Stock, slices.Clone(want[:v]), floor}
			m.holds(t, b)
			m.all = append(m.all, taking(0, add("nut", 1)), taking(7, add("nut", 1)))
			do(t, b, m.all[v:]...)
			m.holds(t, b)
		}
		m := model{object.Stock, want, floor}
		m.holds(t, l)
		for _, i := range edges {
			m.tells(t, l, i)
		}
		if k, was := l.Undone(255); k != 9 || !was {
			t.Errorf("Undone(255): %d, %v", k, was)
		}
	}
}

// P14.3: which versions are kept whole.
func TestMarks(t *testing.T) {
	l := replay.New(object.Stock)
	for n, want := range [][]int{{0}, {0}, {0}, {0}, {0, 4}, {0, 4}, {0, 4}, {0, 4}, {0, 4, 8}, {0, 4, 8}} {
		if got := l.Marks(); !slices.Equal(got, want) {
			t.Errorf("Marks of %d: %v, want %v", n, got, want)
		}
		do(t, l, add("nut", 1))
	}
	for _, x := range []struct {
		floor int
		want  []int
	}{{0, []int{0, 4, 8}}, {1, []int{1, 4, 8}}, {3, []int{3, 4, 8}}, {4, []int{4, 8}}, {4, []int{4, 8}}, {5, []int{5, 8}}, {9, []int{9}}, {10, []int{10}}} {
		ok(t, "Retain", l.Retain(x.floor))
		got := l.Marks()
		if !slices.Equal(got, x.want) {
			t.Errorf("Marks behind Retain(%d): %v, want %v", x.floor, got, x.want)
		}
		clear(got)
	}
	do(t, l, nuts(7)...)
	if got := l.Marks(); !slices.Equal(got, []int{10, 12, 16}) {
		t.Errorf("Marks: %v", got)
	}
}

// P14.1, P14.2, P14.3: each number of commands, with each floor; and what comes behind that floor.
func TestEachFloor(t *testing.T) {
	for n := range 14 {
		for floor := range n + 1 {
			m := model{object.Stock, nuts(n), floor}
			l := m.line(t)
			m.holds(t, l)
			for m.floor < n {
				m.floor++
				ok(t, "Retain", l.Retain(m.floor))
				m.holds(t, l)
			}
			m.all = append(m.all, nuts(6)...)
			do(t, l, nuts(6)...)
			m.holds(t, l)
		}
	}
}

// P14.1: the words of faults, in the step and at the number of each call.
func TestWords(t *testing.T) {
	m := model{object.Stock, nuts(9), 4}
	l := m.line(t)
	short := model{object.Stock, nuts(3), 0}.line(t)
	fails := func(_ any, err error) error { return err }
	for _, x := range []struct {
		err        error
		word, path string
	}{
		{fails(replay.Parse("\x00\x00")), "parse 2: form", "parse/form"},
		{fails(l.Command(9)), "command 9: future", "command/future"},
		{fails(l.Command(3)), "command 3: pruned", "command/pruned"},
		{fails(l.AsOf(10)), "version 10: future", "version/future"},
		{fails(l.AsOf(-1)), "version -1: future", "version/future"},
		{fails(l.AsOf(3)), "version 3: pruned", "version/pruned"},
		{fails(l.Result(9)), "command 9: future", "command/future"},
		{fails(l.Result(3)), "command 3: pruned", "command/pruned"},
		{l.Retain(10), "retain 10: version 10: future", "retain/version/future"},
		{l.Retain(3), "retain 3: version 3: pruned", "retain/version/pruned"},
		{fails(l.Branch(10)), "branch 10: future", "branch/future"},
		{fails(l.Branch(-1)), "branch -1: future", "branch/future"},
		{fails(l.Branch(3)), "branch 3: pruned", "branch/pruned"},
		{fails(short.Begins(l)), "begins 3: head 3: pruned", "begins/head/pruned"},
	} {
		if x.err == nil || x.err.Error() != x.word || fault.Path(x.err) != x.path {
			t.Errorf("%v, want %s", x.err, x.word)
		}
	}
	m.holds(t, l)
}

// P14.1: numbers far outside.
func TestOutside(t *testing.T) {
	m := model{object.Stock, nuts(9), 4}
	l := m.line(t)
	for _, i := range edges {
		m.tells(t, l, i)
	}
	m.holds(t, l)
}

// P14.1, P14.2: a branch of each version, with each floor; it goes its own way, and so does the line.
func TestBranch(t *testing.T) {
	const n = 9
	for _, kind := range kinds {
		all := firsts(kind)
		for floor := range len(all) + 1 {
			for v := floor; v <= len(all); v++ {
				m := model{kind, firsts(kind), floor}
				l := m.line(t)
				b, err := l.Branch(v)
				ok(t, "Branch", err)
				other := model{kind, slices.Clone(m.all[:v]), floor}
				other.holds(t, b)
				m.does(t, l, 7)
				other.holds(t, b)
				other.does(t, b, n)
				other.floor = v
				ok(t, "Retain", b.Retain(v))
				m.holds(t, l)
				m.floor = len(m.all)
				ok(t, "Retain", l.Retain(m.floor))
				m.holds(t, l)
				other.holds(t, b)
			}
		}
	}
}

// does does n commands of which the first one ends well, on a line and in its model; each takes one back.
func (m *model) does(t *testing.T, l *replay.Line, n int) {
	t.Helper()
	for i := range n {
		c := taking(i%5, add("screw", 1+i))
		switch m.kind {
		case object.Text:
			c = taking(i%5, insert(0, strconv.Itoa(i)))
		case object.Ledger:
			c = taking(i%5, move("", "a", 1+i))
		}
		if r := l.Do(c); r.Err == api.OK {
			m.all = append(m.all, c)
		}
	}
}

// begins holds what Begins answers against what it should.
func begins(t *testing.T, name string, l, m *replay.Line, want bool, e api.Errno) {
	t.Helper()
	got, err := l.Begins(m)
	is(t, name, err, l.Len(), e, "begins", "head")
	if got != want {
		t.Errorf("%s: %v", name, got)
	}
}

// P14.1: which lines begin with others.
func TestBegins(t *testing.T) {
	l := model{object.Stock, nuts(5), 0}.line(t)
	begins(t, "itself", l, l, true, api.OK)
	for v := range 6 {
		b, _ := l.Branch(v)
		begins(t, "a branch", b, l, true, api.OK)
		begins(t, "of a branch", l, b, v == 5, api.OK)
		do(t, b, add("bolt", 1))
		begins(t, "another way", b, l, false, api.OK)
		begins(t, "of another way", l, b, v == 5, api.OK)
	}
	like := model{object.Stock, nuts(7), 0}.line(t)
	begins(t, "one like it", l, like, true, api.OK)
	unlike := model{object.Stock, append(nuts(4), add("nut", 4), add("nut", 1)), 0}.line(t)
	begins(t, "one unlike it at last", l, unlike, false, api.OK)
	unlike = model{object.Stock, append([]replay.Command{add("bolt", 1)}, nuts(6)[1:]...), 0}.line(t)
	begins(t, "one unlike it at first", l, unlike, false, api.OK)
	took := nuts(6)
	took[3].Of = 2
	begins(t, "one that takes back", l, model{object.Stock, took, 0}.line(t), false, api.OK)
}

// P14.1: lines of another kind, and lines of which the first commands went.
func TestBeginsEdges(t *testing.T) {
	for _, a := range kinds {
		for _, b := range kinds {
			begins(t, "of nothing", replay.New(a), replay.New(b), a == b, api.OK)
			begins(t, "of something", replay.New(a), model{b, firsts(b), 0}.line(t), a == b, api.OK)
			begins(t, "of what is gone", replay.New(a), model{b, firsts(b), 1}.line(t), false, map[bool]api.Errno{true: api.ErrPruned}[a == b])
			begins(t, "more commands", model{a, firsts(a), 0}.line(t), replay.New(b), false, api.OK)
		}
	}
	for floor := range 8 {
		m := model{object.Stock, nuts(7), floor}.line(t)
		for n := range 8 {
			e := api.OK
			if n < floor {
				e = api.ErrPruned
			}
			begins(t, "elder than the floor", model{object.Stock, nuts(n), 0}.line(t), m, n >= floor, e)
			begins(t, "all of it gone", model{object.Stock, nuts(n), n}.line(t), m, n >= floor, e)
		}
		begins(t, "longer than all", model{object.Stock, nuts(8), 0}.line(t), m, false, api.OK)
		begins(t, "unlike, and there", model{object.Stock, append(nuts(6), add("bolt", 1)), 0}.line(t), m, false, api.OK)
	}
}

// P14.1, K2, K4: what is only asked changes nothing, and is answered the same again.
func TestAsksChangeNothing(t *testing.T) {
	for _, kind := range kinds {
		m := model{kind, firsts(kind), 2}
		l := m.line(t)
		for range 3 {
			m.holds(t, l)
			for v := 2; v <= 6; v++ {
				b, _ := l.Branch(v)
				begins(t, "a branch", b, l, true, api.OK)
			}
		}
	}
}

// some is any command of a kind; some of them don't end well.
func some(r *rand.Rand, kind, n int) replay.Command {
	name := func() string { return string(rune('a' + r.Intn(4))) }
	var c replay.Command
	switch x := r.Intn(8); {
	case kind == object.Text && x < 4:
		c = cut(r.Intn(30), 1+r.Intn(6))
	case kind == object.Text:
		c = insert(r.Intn(30), strings.Repeat(name(), 1+r.Intn(9)))
	case kind == object.Ledger && x < 2:
		c = open(name())
	case kind == object.Ledger && x == 2:
		c = shut(name())
	case kind == object.Ledger && x < 6:
		c = move("", name(), 1+r.Intn(9))
	case kind == object.Ledger:
		c = move(name(), name(), 1+r.Intn(9))
	case x < 5:
		c = add(name(), 1+r.Intn(9))
	default:
		c = take(name(), 1+r.Intn(9))
	}
	if r.Intn(3) == 0 {
		c.Of = r.Intn(min(n+3, 256))
	}
	return c
}

// pair is a line, and what it is held against.
type pair struct {
	m model
	l *replay.Line
}

// step does something to a pair, and answers another pair where one comes of it.
func (p *pair) step(t *testing.T, r *rand.Rand) *pair {
	t.Helper()
	v := p.m.floor + r.Intn(len(p.m.all)-p.m.floor+1)
	switch r.Intn(12) {
	case 0:
		p.m.floor = v
		ok(t, "Retain", p.l.Retain(v))
	case 1, 2:
		b, err := p.l.Branch(v)
		ok(t, "Branch", err)
		return &pair{model{p.m.kind, slices.Clone(p.m.all[:v]), p.m.floor}, b}
	default:
		for range 4 {
			c := some(r, p.m.kind, len(p.m.all))
			want := p.m.version(len(p.m.all)).Do(c.Op)
			if got := p.l.Do(c); got != want {
				t.Fatalf("%+v: %+v, want %+v", c, got, want)
			}
			if want.Err == api.OK {
				p.m.all = append(p.m.all, c)
			}
		}
	}
	return nil
}

// P14.1, P14.2, P14.3: behind any calls, of lines and their branches.
func TestAnyCalls(t *testing.T) {
	r := rand.New(rand.NewSource(16))
	for round := range 24 {
		kind := kinds[round%3]
		all := []*pair{{model{kind: kind}, replay.New(kind)}}
		for range 50 {
			if other := all[r.Intn(len(all))].step(t, r); other != nil && len(all) < 8 {
				all = append(all, other)
			}
		}
		for _, p := range all {
			p.m.holds(t, p.l)
		}
	}
}

// P14.2: as many commands as a log has, and each version of them.
func TestLong(t *testing.T) {
	r := rand.New(rand.NewSource(17))
	for _, kind := range kinds {
		l, x := replay.New(kind), object.New(kind)
		versions := []string{x.Save()}
		for l.Len() < api.MaxLog {
			c := some(r, kind, l.Len())
			if l.Do(c).Err == api.OK {
				x.Do(c.Op)
				versions = append(versions, x.Save())
			}
		}
		for v, want := range versions {
			ok(t, "Retain", l.Retain(v/2))
			if s, err := l.AsOf(v); s != want || err != nil {
				t.Fatalf("AsOf(%d): %x, %v, want %x", v, s, err, want)
			}
		}
	}
}

// inUse is how many bytes are in use.
func inUse() uint64 {
	runtime.GC()
	var m runtime.MemStats
	runtime.ReadMemStats(&m)
	return m.HeapAlloc
}

// P14.3: of versions, and commands, that are gone nothing is kept but who took back which.
func TestRetainFreesRoom(t *testing.T) {
	const n = 1 << 15
	l := replay.New(object.Text)
	do(t, l, insert(0, "x"))
	for range n / 2 {
		do(t, l, taking(7, insert(0, "y")), taking(8, cut(0, 1)))
	}
	ok(t, "Retain", l.Retain(n))
	with := inUse()
	runtime.KeepAlive(l)
	l = nil
	if without := inUse(); with > without+n {
		t.Errorf("a line of which all but one went has %d bytes", with-without)
	}
}
