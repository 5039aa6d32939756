package undo_test

import (
	"errors"
	"math"
	"math/rand"
	"slices"
	"strconv"
	"strings"
	"testing"

	"hindsight/api"
	"hindsight/fault"
	"hindsight/ledger"
	"hindsight/object"
	"hindsight/replay"
	"hindsight/stock"
	"hindsight/text"
	"hindsight/undo"
)

// kinds are all that there are.
var kinds = []int{object.Text, object.Ledger, object.Stock}

// edges are numbers that no line has commands for.
var edges = []int{math.MinInt, math.MinInt + 1, -1 << 32, -2, -1, 1 << 20, 1 << 32, math.MaxInt - 1, math.MaxInt}

func insert(at int, s string) replay.Command {
	return replay.Command{Op: object.Op{Kind: object.Text, Text: text.Op{Kind: text.Insert, At: at, S: s}}}
}

func cut(at, n int) replay.Command {
	return replay.Command{Op: object.Op{Kind: object.Text, Text: text.Op{Kind: text.Delete, At: at, N: n}}}
}

func ofLedger(o ledger.Op) replay.Command {
	return replay.Command{Op: object.Op{Kind: object.Ledger, Ledger: o}}
}

func open(name string) replay.Command {
	return ofLedger(ledger.Op{Kind: ledger.Open, Name: name})
}

func shut(name string) replay.Command {
	return ofLedger(ledger.Op{Kind: ledger.Close, Name: name})
}

func move(from, to string, amount int) replay.Command {
	return ofLedger(ledger.Op{Kind: ledger.Move, Name: from, To: to, Amount: amount})
}

func add(name string, n int) replay.Command {
	return replay.Command{Op: object.Op{Kind: object.Stock, Stock: stock.Op{Kind: stock.Add, Name: name, N: n}}}
}

func take(name string, n int) replay.Command {
	return replay.Command{Op: object.Op{Kind: object.Stock, Stock: stock.Op{Kind: stock.Take, Name: name, N: n}}}
}

// taking is a command that says that it takes back the one at a place.
func taking(place int, c replay.Command) replay.Command {
	c.Of = place + 1
	return c
}

// numbered are n goods, or accounts, one command each.
func numbered(n int, one func(string) replay.Command) []replay.Command {
	var l []replay.Command
	for i := range n {
		l = append(l, one("n"+strconv.Itoa(i)))
	}
	return l
}

// addOne lets one of a good come in.
func addOne(name string) replay.Command {
	return add(name, 1)
}

// of is a line of commands that are to end well.
func of(t *testing.T, kind int, all ...replay.Command) *replay.Line {
	t.Helper()
	l := replay.New(kind)
	for _, c := range all {
		if r := l.Do(c); r.Err != api.OK {
			t.Fatalf("%+v: %v", c, r.Err)
		}
	}
	return l
}

// is looks whether an error is the one that is wanted: in the same steps, at the same places.
func is(t *testing.T, name string, err, want error) {
	t.Helper()
	if want == nil {
		if err != nil {
			t.Fatalf("%s: %v", name, err)
		}
		return
	}
	if err == nil || err.Error() != want.Error() || !errors.Is(err, fault.Of(want)) || fault.Path(err) != fault.Path(want) {
		t.Fatalf("%s: %v, want %v", name, err, want)
	}
}

// told is all that a line tells.
func told(l *replay.Line) string {
	var b strings.Builder
	head, _ := l.Head(l.Len())
	b.WriteString(strconv.Itoa(l.Len()) + string(head.Root[:]) + l.Save())
	for _, v := range l.Marks() {
		b.WriteString(" " + strconv.Itoa(v))
	}
	for v := l.Floor(); v <= l.Len(); v++ {
		s, err := l.AsOf(v)
		by, was := l.Undone(v)
		b.WriteString(s + fault.Path(err) + strconv.Itoa(by) + strconv.FormatBool(was))
	}
	return b.String()
}

// model is what a line is held against: all commands that were done, and its floor.
type model struct {
	kind  int
	all   []replay.Command
	floor int
}

// names are those that an op speaks of, by the chapters of layers 6 and 7.
func names(o object.Op) []string {
	if o.Kind == object.Stock {
		return []string{o.Stock.Name}
	}
	l := []string{o.Ledger.Name}
	if o.Ledger.Kind == ledger.Move {
		l = append(l, o.Ledger.To)
	}
	return l
}

// apart: do they speak of no name in common, but the house?
func apart(a, b object.Op) bool {
	for _, x := range names(a) {
		if x != "" && slices.Contains(names(b), x) {
			return false
		}
	}
	return a.Kind != object.Text
}

// back is the op that makes good what one did to an object.
func back(o object.Op, gone string) object.Op {
	switch {
	case o.Kind == object.Text && o.Text.Kind == text.Insert:
		return cut(o.Text.At, len(o.Text.S)).Op
	case o.Kind == object.Text:
		return insert(o.Text.At, gone).Op
	case o.Kind == object.Stock && o.Stock.Kind == stock.Add:
		return take(o.Stock.Name, o.Stock.N).Op
	case o.Kind == object.Stock:
		return add(o.Stock.Name, o.Stock.N).Op
	case o.Ledger.Kind == ledger.Open:
		return shut(o.Ledger.Name).Op
	case o.Ledger.Kind == ledger.Close:
		return open(o.Ledger.Name).Op
	}
	return move(o.Ledger.To, o.Ledger.Name, o.Ledger.Amount).Op
}

// object is what the first v commands make.
func (m model) object(v int) object.State {
	x := object.New(m.kind)
	for _, c := range m.all[:v] {
		x.Do(c.Op)
	}
	return x
}

// wrong is why a command can't be taken back.
func (m model) wrong(i int) error {
	switch {
	case i < 0 || i >= len(m.all):
		return fault.In("command", i, api.ErrFuture)
	case i < m.floor:
		return fault.In("command", i, api.ErrPruned)
	case slices.ContainsFunc(m.all, func(c replay.Command) bool { return c.Of == i+1 }):
		return api.ErrUndone
	case m.all[i].Of > 0:
		return api.ErrFixed
	}
	for k := i + 1; k < len(m.all); k++ {
		if !apart(m.all[i].Op, m.all[k].Op) {
			return fault.In("command", k, api.ErrConflict)
		}
	}
	return nil
}

func (m model) plan(i int) (replay.Command, error) {
	if err := m.wrong(i); err != nil {
		return replay.Command{}, fault.In("undo", i, err)
	}
	gone := m.object(i).Do(m.all[i].Op).Gone
	return replay.Command{Op: back(m.all[i].Op, gone), Of: i + 1}, nil
}

func (m *model) do(i int) (replay.Command, error) {
	c, err := m.plan(i)
	if err != nil {
		return replay.Command{}, err
	}
	if m.object(len(m.all)).Do(c.Op).Err != api.OK {
		return replay.Command{}, fault.In("undo", i, api.ErrConflict)
	}
	m.all = append(m.all, c)
	return c, nil
}

func (m model) without(i int) (string, bool) {
	if m.floor > 0 {
		return "", false
	}
	x := object.New(m.kind)
	for k, c := range m.all {
		if k != i && x.Do(c.Op).Err != api.OK {
			return "", false
		}
	}
	return x.Save(), true
}

// holds holds what a line may undo, of any place, against the model; nothing changes by that.
func (m model) holds(t *testing.T, l *replay.Line) {
	t.Helper()
	was := told(l)
	var may []int
	for i := -2; i < len(m.all)+3; i++ {
		c, err := undo.Plan(l, i)
		want, wantErr := m.plan(i)
		is(t, "Plan", err, wantErr)
		s, ok := undo.Without(l, i)
		wantS, wantOk := m.without(i)
		if c != want || s != wantS || ok != wantOk {
			t.Fatalf("of %d: Plan %+v, Without %x, %t, want %+v, %x, %t", i, c, s, ok, want, wantS, wantOk)
		}
		if wantErr == nil {
			may = append(may, i)
		}
	}
	if l := undo.May(l); !slices.Equal(l, may) {
		t.Fatalf("May: %v, want %v", l, may)
	}
	if told(l) != was {
		t.Fatal("a line that was asked changed")
	}
}

// does takes a command back, on a line and on its model.
func (m *model) does(t *testing.T, l *replay.Line, i int) error {
	t.Helper()
	was := told(l)
	c, err := undo.Do(l, i)
	want, wantErr := m.do(i)
	is(t, "Do", err, wantErr)
	if c != want {
		t.Fatalf("Do(%d): %+v, want %+v", i, c, want)
	}
	if err != nil && told(l) != was {
		t.Fatalf("Do(%d): %v, and something changed", i, err)
	}
	if l.Len() != len(m.all) || l.Save() != m.object(len(m.all)).Save() {
		t.Fatalf("behind Do(%d): %d commands, %x", i, l.Len(), l.Save())
	}
	return err
}

// P21.1: the chapter's examples.
func TestExample(t *testing.T) {
	l := of(t, object.Stock, add("nut", 5), add("bolt", 2))
	c, err := undo.Do(l, 0)
	is(t, "Do", err, nil)
	if c != taking(0, take("nut", 5)) || l.Len() != 3 || l.Save() != "\x01\x04bolt\x02" {
		t.Errorf("Do: %+v, %x", c, l.Save())
	}
	if by, was := l.Undone(0); by != 2 || !was {
		t.Errorf("Undone: %d, %t", by, was)
	}
	l = of(t, object.Stock, add("nut", 1), add("nut", 1))
	_, err = undo.Do(l, 0)
	is(t, "Do", err, fault.In("undo", 0, fault.In("command", 1, api.ErrConflict)))
	if l.Len() != 2 {
		t.Errorf("Len: %d", l.Len())
	}
}

// P21.1: what takes an op of each kind back.
func TestPlan(t *testing.T) {
	for _, x := range []struct {
		kind   int
		before []replay.Command
		c      replay.Command
		want   replay.Command
	}{
		{object.Text, nil, insert(0, "ab"), cut(0, 2)},
		{object.Text, []replay.Command{insert(0, "abcd")}, insert(3, "\x00"), cut(3, 1)},
		{object.Text, []replay.Command{insert(0, "abcd")}, cut(1, 2), insert(1, "bc")},
		{object.Text, []replay.Command{insert(0, "a"), insert(1, "b"), insert(0, "c"), insert(0, "d"), insert(0, "\xff")}, cut(0, 5), insert(0, "\xffdcab")},
		{object.Ledger, nil, open("a"), shut("a")},
		{object.Ledger, []replay.Command{open("a")}, shut("a"), open("a")},
		{object.Ledger, []replay.Command{open("a")}, move("", "a", 7), move("a", "", 7)},
		{object.Ledger, []replay.Command{open("a"), open("b"), move("", "b", 9)}, move("b", "a", 9), move("a", "b", 9)},
		{object.Stock, nil, add("nut", 1<<40), take("nut", 1<<40)},
		{object.Stock, []replay.Command{add("nut", 4)}, take("nut", 4), add("nut", 4)},
		{object.Stock, []replay.Command{add("nut", 4), take("nut", 1)}, take("nut", 2), add("nut", 2)},
	} {
		l := of(t, x.kind, append(x.before, x.c)...)
		n := len(x.before)
		was := told(l)
		c, err := undo.Plan(l, n)
		is(t, "Plan", err, nil)
		if c != taking(n, x.want) {
			t.Errorf("Plan of %+v: %+v, want %+v", x.c, c, x.want)
		}
		if told(l) != was {
			t.Errorf("Plan of %+v: the line changed", x.c)
		}
		ahead, _ := l.AsOf(n)
		done, err := undo.Do(l, n)
		is(t, "Do", err, nil)
		last, _ := l.Command(n + 1)
		if done != c || last != c || l.Save() != ahead {
			t.Errorf("Do of %+v: %+v, behind it %+v, %x", x.c, done, last, l.Save())
		}
	}
}

// P21.1: the errors, and which one comes first.
func TestErrors(t *testing.T) {
	l := of(t, object.Stock, add("nut", 9), add("bolt", 9), take("nut", 1), taking(2, add("nut", 1)), add("screw", 1), taking(4, take("screw", 1)), taking(5, add("screw", 1)), add("pin", 1), add("pin", 1), taking(8, take("pin", 1)))
	for i, want := range []error{
		fault.In("command", 2, api.ErrConflict),
		nil,
		api.ErrUndone, // command 3 isn't apart from it, either
		api.ErrFixed,
		api.ErrUndone,
		api.ErrUndone, // it takes one back itself, too
		api.ErrFixed,
		fault.In("command", 8, api.ErrConflict), // the first one, not the last one
		api.ErrUndone,
		api.ErrFixed,
	} {
		_, err := undo.Plan(l, i)
		is(t, "Plan", err, fault.In("undo", i, want))
	}
	for _, i := range append([]int{10, 11}, edges...) {
		want := fault.In("undo", i, fault.In("command", i, api.ErrFuture))
		c, err := undo.Plan(l, i)
		is(t, "Plan", err, want)
		done, err := undo.Do(l, i)
		is(t, "Do", err, want)
		if c != (replay.Command{}) || done != c {
			t.Errorf("of %d: %+v, %+v", i, c, done)
		}
	}
	if may := undo.May(l); !slices.Equal(may, []int{1}) {
		t.Errorf("May: %v", may)
	}
	if err := l.Retain(5); err != nil {
		t.Fatal(err)
	}
	for i := range 5 {
		_, err := undo.Do(l, i)
		is(t, "Do", err, fault.In("undo", i, fault.In("command", i, api.ErrPruned)))
	}
	if may := undo.May(l); len(may) != 0 || l.Len() != 10 {
		t.Errorf("May: %v, Len: %d", may, l.Len())
	}
}

// P21.1: the words of faults.
func TestWords(t *testing.T) {
	l := of(t, object.Ledger, append([]replay.Command{open("a"), shut("a")}, numbered(16, open)...)...)
	_, full := undo.Do(l, 1)
	_, future := undo.Do(l, -7)
	_, conflict := undo.Do(l, 0)
	undo.Do(l, 5)
	_, undone := undo.Do(l, 5)
	_, fixed := undo.Do(l, 18)
	l.Retain(4)
	_, pruned := undo.Plan(l, 3)
	for _, c := range []struct {
		err        error
		word, path string
	}{
		{full, "undo 1: conflict", "undo/conflict"},
		{future, "undo -7: command -7: future", "undo/command/future"},
		{conflict, "undo 0: command 1: conflict", "undo/command/conflict"},
		{undone, "undo 5: undone", "undo/undone"},
		{fixed, "undo 18: fixed", "undo/fixed"},
		{pruned, "undo 3: command 3: pruned", "undo/command/pruned"},
	} {
		if c.err == nil || c.err.Error() != c.word || fault.Path(c.err) != c.path {
			t.Errorf("%v, want %s", c.err, c.word)
		}
	}
}

// P21.1: a command whose room others took has a plan, but can't be done.
func TestFull(t *testing.T) {
	for _, x := range []struct {
		kind int
		all  []replay.Command
		i    int
	}{
		{object.Stock, append([]replay.Command{add("nut", 2), take("nut", 2)}, numbered(16, addOne)...), 1},
		{object.Ledger, append([]replay.Command{open("a"), shut("a")}, numbered(16, open)...), 1},
	} {
		l := of(t, x.kind, x.all...)
		m := &model{kind: x.kind, all: x.all}
		m.holds(t, l)
		if !slices.Contains(undo.May(l), x.i) {
			t.Errorf("May: %v", undo.May(l))
		}
		is(t, "Do", m.does(t, l, x.i), fault.In("undo", x.i, api.ErrConflict))
		// Room is made for it.
		m.does(t, l, 2)
		is(t, "Do", m.does(t, l, x.i), nil)
		m.holds(t, l)
	}
}

// P21.1: at the place of a command that can be taken back, whatever was done to the others.
func TestMay(t *testing.T) {
	for _, kind := range kinds {
		l := replay.New(kind)
		m := &model{kind: kind}
		m.holds(t, l)
		if may := undo.May(l); len(may) != 0 {
			t.Errorf("May of nothing: %v", may)
		}
		if s, ok := undo.Without(l, 0); s != l.Save() || !ok {
			t.Errorf("Without of nothing: %x, %t", s, ok)
		}
	}
	l := of(t, object.Text, insert(0, "a"), insert(1, "b"), insert(2, "c"))
	for n := 2; n >= 0; n-- {
		want := []int{2}
		if n < 2 {
			want = nil // what takes a command back hangs on it as others do
		}
		if may := undo.May(l); !slices.Equal(may, want) {
			t.Errorf("May: %v, want %v", may, want)
		}
		undo.Do(l, n)
	}
	l = of(t, object.Stock, numbered(5, addOne)...)
	may := undo.May(l)
	may[0] = 99
	if may := undo.May(l); !slices.Equal(may, []int{0, 1, 2, 3, 4}) {
		t.Errorf("May: %v", may)
	}
}

// P21.1: what all others make; of what is no place, what all make; nothing where one of them hangs on it.
func TestWithout(t *testing.T) {
	all := []replay.Command{open("a"), open("b"), move("", "a", 5), move("a", "b", 5), open("c")}
	l := of(t, object.Ledger, all...)
	for i, want := range []string{"", "", "", "\x03\x01a\x05\x01b\x00\x01c\x00", "\x02\x01a\x00\x01b\x05"} {
		s, ok := undo.Without(l, i)
		if s != want || ok != (want != "") {
			t.Errorf("Without(%d): %x, %t", i, s, ok)
		}
	}
	for _, i := range append([]int{5, 6}, edges...) {
		if s, ok := undo.Without(l, i); s != l.Save() || !ok {
			t.Errorf("Without(%d): %x, %t", i, s, ok)
		}
	}
	l.Retain(0)
	if _, ok := undo.Without(l, 4); !ok {
		t.Error("Without: nothing is gone")
	}
	l.Retain(1)
	for i := -1; i < 7; i++ {
		if s, ok := undo.Without(l, i); s != "" || ok {
			t.Errorf("Without(%d): %x, %t, though command 0 is gone", i, s, ok)
		}
	}
}

// P21.1: a command is done once more behind the one that took it back, and that can be taken back.
func TestAgain(t *testing.T) {
	m := &model{kind: object.Stock, all: []replay.Command{add("nut", 1), add("bolt", 1)}}
	l := of(t, m.kind, m.all...)
	is(t, "Do", m.does(t, l, 0), nil)
	is(t, "Do", m.does(t, l, 0), fault.In("undo", 0, api.ErrUndone))
	is(t, "Do", m.does(t, l, 2), fault.In("undo", 2, api.ErrFixed))
	l.Do(add("nut", 1))
	m.all = append(m.all, add("nut", 1))
	is(t, "Do", m.does(t, l, 3), nil)
	m.holds(t, l)
}

// P21.1: what one line takes back another one doesn't.
func TestBranches(t *testing.T) {
	m := &model{kind: object.Ledger, all: numbered(6, open)}
	l := of(t, m.kind, m.all...)
	ahead := &model{kind: m.kind, all: slices.Clone(m.all)}
	other, _ := l.Branch(6)
	m.does(t, l, 2)
	behind := &model{kind: m.kind, all: slices.Clone(m.all)}
	third, _ := l.Branch(7)
	m.does(t, l, 3)
	ahead.does(t, other, 4)
	behind.does(t, third, 5)
	m.holds(t, l)
	ahead.holds(t, other)
	behind.holds(t, third)
	for i, x := range []struct {
		l   *replay.Line
		may []int
	}{{l, []int{0, 1, 4, 5}}, {other, []int{0, 1, 2, 3, 5}}, {third, []int{0, 1, 3, 4}}} {
		if may := undo.May(x.l); !slices.Equal(may, x.may) {
			t.Errorf("May of %d: %v, want %v", i, may, x.may)
		}
	}
}

// P21.1: what is kept is enough to take a command back, how many ever went.
func TestPruned(t *testing.T) {
	all := []replay.Command{insert(0, "abcdef"), cut(0, 1), cut(1, 2), insert(0, "x"), insert(0, "y"), cut(0, 3)}
	for n := 1; n <= len(all); n++ {
		for floor := range n + 1 {
			m := &model{kind: object.Text, all: slices.Clone(all[:n]), floor: floor}
			l := of(t, m.kind, m.all...)
			l.Retain(floor)
			m.holds(t, l)
			m.does(t, l, n-1)
			m.holds(t, l)
		}
	}
}

// P21.2: behind a Do the object is what all other commands make of it, and no version changes; for every place of every line.
func TestBack(t *testing.T) {
	r := rand.New(rand.NewSource(21))
	had := map[string]int{}
	for round := range 240 {
		kind := kinds[round%3]
		m := &model{kind: kind}
		l := replay.New(kind)
		for range 1 + r.Intn(24) {
			if c := some(r, kind, 14); l.Do(c).Err == api.OK {
				m.all = append(m.all, c)
			}
		}
		for range 4 {
			for i := range len(m.all) {
				if _, err := m.plan(i); err != nil {
					had[fault.Path(err)]++
					continue
				}
				had["ok"]++
				m.goesBack(t, l, i)
			}
			if c := some(r, kind, 14); l.Do(c).Err == api.OK {
				m.all = append(m.all, c)
			}
		}
	}
	for _, word := range []string{"ok", "undo/undone", "undo/fixed", "undo/command/conflict"} {
		if had[word] < 50 {
			t.Errorf("%s only %d times", word, had[word])
		}
	}
}

// goesBack takes a command back that has a plan.
func (m *model) goesBack(t *testing.T, l *replay.Line, i int) {
	t.Helper()
	want, ok := undo.Without(l, i)
	n := l.Len()
	is(t, "Do", m.does(t, l, i), nil)
	if l.Save() != want || !ok {
		t.Fatalf("behind Do(%d): %x, but all others make %x, %t", i, l.Save(), want, ok)
	}
	for v := range n + 2 {
		s, err := l.AsOf(v)
		is(t, "AsOf", err, nil)
		if s != m.object(v).Save() {
			t.Fatalf("behind Do(%d): version %d is %x", i, v, s)
		}
	}
}

// some is any command of a kind, of so many names; some of them don't end well.
func some(r *rand.Rand, kind, most int) replay.Command {
	name := func() string {
		if k := r.Intn(most + 1); k < most || kind != object.Ledger {
			return string(rune('a' + k%most))
		}
		return ""
	}
	switch x := r.Intn(5); {
	case kind == object.Text && x < 2:
		return cut(r.Intn(20), 1+r.Intn(6))
	case kind == object.Text:
		return insert(r.Intn(20), strings.Repeat("abc"[x-2:x-1], 1+r.Intn(9)))
	case kind == object.Stock && x < 2:
		return take(name(), 1+r.Intn(4))
	case kind == object.Stock:
		return add(name(), 1+r.Intn(4))
	case x < 3:
		return open(name())
	case x == 3:
		return shut(name())
	}
	return move([]string{"", name()}[r.Intn(2)], name(), 1+r.Intn(4))
}

// P21.1, P21.2: behind any calls, also of commands that say that they take others back, and of more than 14 names.
func TestAnyCalls(t *testing.T) {
	r := rand.New(rand.NewSource(2121))
	had := map[string]int{}
	for round := range 200 {
		m := &model{kind: kinds[round%3]}
		l := replay.New(m.kind)
		most := []int{2, 5, 18, 24}[r.Intn(4)]
		if most > 5 {
			m.fills(l)
		}
		for range 50 {
			switch r.Intn(8) {
			case 0, 1, 2:
				i := m.floor + r.Intn(len(m.all)-m.floor+3) - 1
				if may := undo.May(l); len(may) > 0 && r.Intn(2) == 0 {
					i = may[r.Intn(len(may))]
				}
				err := m.does(t, l, i)
				had[fault.Path(err)]++
			case 3:
				if v := m.floor + r.Intn(3); v <= len(m.all) && r.Intn(3) == 0 {
					is(t, "Retain", l.Retain(v), nil)
					m.floor = v
				}
			default:
				c := some(r, m.kind, most)
				if r.Intn(12) == 0 {
					c.Of = r.Intn(len(m.all) + 3)
				}
				if l.Do(c).Err == api.OK {
					m.all = append(m.all, c)
				}
			}
			if r.Intn(5) == 0 {
				m.holds(t, l)
			}
		}
		m.holds(t, l)
	}
	for _, word := range []string{"ok", "undo/command/future", "undo/command/pruned", "undo/undone", "undo/fixed", "undo/command/conflict", "undo/conflict"} {
		if had[word] < 3 {
			t.Errorf("%s only %d times", word, had[word])
		}
	}
}

// P21.2: also on a line that has more commands than a log has slots: no version changes.
func TestLong(t *testing.T) {
	const n = 300
	all := numbered(10, addOne)
	for len(all) < n {
		all = append(all, add("nut", 1))
	}
	all[255], all[256], all[281] = add("bolt", 1), add("pin", 1), add("screw", 1)
	m := &model{kind: object.Stock, all: all}
	l := of(t, m.kind, all...)
	for _, i := range []int{5, 255, 256, 281} {
		m.goesBack(t, l, i)
		m.holds(t, l)
		other, err := l.Branch(l.Len())
		is(t, "Branch", err, nil)
		m.holds(t, other)
	}
}

// fills is a line all of whose room for names is taken, but what a command that may be taken back had.
func (m *model) fills(l *replay.Line) {
	all := map[int][]replay.Command{
		object.Ledger: append([]replay.Command{open("old"), shut("old")}, numbered(16, open)...),
		object.Stock:  append([]replay.Command{add("old", 1), take("old", 1)}, numbered(16, addOne)...),
	}
	for _, c := range all[m.kind] {
		l.Do(c)
		m.all = append(m.all, c)
	}
}

// P1, K7: no call panics, whatever numbers come.
func TestNoPanic(t *testing.T) {
	for _, kind := range kinds {
		for _, i := range append([]int{0, 1, 2}, edges...) {
			l := replay.New(kind)
			for range 3 {
				undo.Plan(l, i)
				undo.Do(l, i)
				undo.May(l)
				undo.Without(l, i)
				l.Do(taking(i%250, add("nut", 1)))
				l.Do(insert(0, "a"))
			}
		}
	}
}
