package branch_test

import (
	"errors"
	"math"
	"math/rand"
	"slices"
	"strconv"
	"strings"
	"testing"

	"hindsight/api"
	"hindsight/branch"
	"hindsight/fault"
	"hindsight/ledger"
	"hindsight/object"
	"hindsight/replay"
	"hindsight/stock"
	"hindsight/text"
)

// kinds are all that there are.
var kinds = []int{object.Text, object.Ledger, object.Stock}

// edges are numbers that no line has, and no version.
var edges = []int{math.MinInt, math.MinInt + 1, -1 << 32, -2, -1, 16, 17, 1 << 32, math.MaxInt - 1, math.MaxInt}

func insert(at int, s string) replay.Command {
	return replay.Command{Op: object.Op{Kind: object.Text, Text: text.Op{Kind: text.Insert, At: at, S: s}}}
}

func cut(at, n int) replay.Command {
	return replay.Command{Op: object.Op{Kind: object.Text, Text: text.Op{Kind: text.Delete, At: at, N: n}}}
}

func open(name string) replay.Command {
	return replay.Command{Op: object.Op{Kind: object.Ledger, Ledger: ledger.Op{Kind: ledger.Open, Name: name}}}
}

func move(from, to string, amount int) replay.Command {
	return replay.Command{Op: object.Op{Kind: object.Ledger, Ledger: ledger.Op{Kind: ledger.Move, Name: from, To: to, Amount: amount}}}
}

func add(name string, n int) replay.Command {
	return replay.Command{Op: object.Op{Kind: object.Stock, Stock: stock.Op{Kind: stock.Add, Name: name, N: n}}}
}

func take(name string, n int) replay.Command {
	return replay.Command{Op: object.Op{Kind: object.Stock, Stock: stock.Op{Kind: stock.Take, Name: name, N: n}}}
}

// is looks whether an error is the one that is wanted: in the same steps, at the same places.
func is(t *testing.T, name string, err, want error) {
	t.Helper()
	if want == nil {
		if err != nil {
			t.Fatalf("%s: %v", name, err)
		}
		return
	}
	if err == nil || err.Error() != want.Error() || !errors.Is(err, fault.Of(want)) || fault.Path(err) != fault.Path(want) {
		t.Fatalf("%s: %v, want %v", name, err, want)
	}
}

// line is what a line of a table is held against: all commands that were done on it, and its floor.
type line struct {
	all   []replay.Command
	floor int
}

// model is what a table is held against.
type model struct {
	kind int
	l    []line
}

func start(kind int) *model {
	return &model{kind: kind, l: make([]line, 1)}
}

// alone is a line of some commands, of which the elder ones went, as layer 14 has it.
func (m *model) alone(l line) *replay.Line {
	x := replay.New(m.kind)
	for _, c := range l.all {
		x.Do(c)
	}
	x.Retain(l.floor)
	return x
}

// noLine is Line's error; nil: there is that line.
func (m *model) noLine(b int) error {
	if b < 0 || b >= len(m.l) {
		return fault.In("line", b, api.ErrBranch)
	}
	return nil
}

// noVersion is why a version of a line isn't there.
func (l line) noVersion(v int) api.Errno {
	switch {
	case v < 0 || v > len(l.all):
		return api.ErrFuture
	case v < l.floor:
		return api.ErrPruned
	}
	return api.OK
}

func (m *model) do(b int, c replay.Command) (int, object.Result, error) {
	if err := m.noLine(b); err != nil {
		return 0, object.Result{}, err
	}
	r := m.alone(m.l[b]).Do(c)
	if r.Err != api.OK {
		return 0, r, fault.In("do", b, r.Err)
	}
	m.l[b].all = append(m.l[b].all, c)
	return len(m.l[b].all) - 1, r, nil
}

func (m *model) fork(b, v int) (int, error) {
	if err := m.noLine(b); err != nil {
		return 0, err
	}
	if len(m.l) == 16 {
		return 0, fault.In("fork", b, api.ErrFull)
	}
	if e := m.l[b].noVersion(v); e != api.OK {
		return 0, fault.In("fork", b, fault.In("branch", v, e))
	}
	m.l = append(m.l, line{slices.Clone(m.l[b].all[:v]), m.l[b].floor})
	return len(m.l) - 1, nil
}

func (m *model) forward(a, b int) error {
	if err := m.noLine(a); err != nil {
		return err
	}
	if err := m.noLine(b); err != nil {
		return err
	}
	n := len(m.l[a].all)
	switch {
	case n > len(m.l[b].all):
		return fault.In("forward", a, api.ErrDiverged)
	case n < m.l[b].floor:
		return fault.In("forward", a, fault.In("begins", n, fault.In("head", n, api.ErrPruned)))
	}
	for i, c := range m.l[a].all {
		if c.Text() != m.l[b].all[i].Text() {
			return fault.In("forward", a, api.ErrDiverged)
		}
	}
	m.l[a] = line{slices.Clone(m.l[b].all), m.l[b].floor}
	return nil
}

func (m *model) retain(b, v int) error {
	if err := m.noLine(b); err != nil {
		return err
	}
	if e := m.l[b].noVersion(v); e != api.OK {
		return fault.In("keep", b, fault.In("retain", v, fault.In("version", v, e)))
	}
	m.l[b].floor = v
	return nil
}

// same holds all that a line tells against another one.
func same(t *testing.T, name string, l, want *replay.Line) {
	t.Helper()
	n := want.Len()
	if l.Kind() != want.Kind() || l.Len() != n || l.Floor() != want.Floor() || l.Save() != want.Save() || !slices.Equal(l.Marks(), want.Marks()) {
		t.Fatalf("%s: kind %d, %d commands from %d on, %x, %v, want %d, %d, %d, %x, %v", name, l.Kind(), l.Len(), l.Floor(), l.Save(), l.Marks(), want.Kind(), n, want.Floor(), want.Save(), want.Marks())
	}
	for i := -1; i <= n+1; i++ {
		s, err := l.AsOf(i)
		wantS, wantErr := want.AsOf(i)
		is(t, name, err, wantErr)
		c, _ := l.Command(i)
		wantC, _ := want.Command(i)
		r, _ := l.Result(i)
		wantR, _ := want.Result(i)
		h, err := l.Head(i)
		wantH, wantErr := want.Head(i)
		is(t, name, err, wantErr)
		by, was := l.Undone(i)
		wantBy, wantWas := want.Undone(i)
		if s != wantS || c != wantC || r != wantR || h != wantH || by != wantBy || was != wantWas {
			t.Fatalf("%s, at %d: %x, %+v, %+v, %+v, %d, want %x, %+v, %+v, %+v, %d", name, i, s, c, r, h, by, wantS, wantC, wantR, wantH, wantBy)
		}
	}
}

// holds holds all of a table against the model.
func (m *model) holds(t *testing.T, x *branch.Table) {
	t.Helper()
	if x.Len() != len(m.l) {
		t.Fatalf("Len: %d, want %d", x.Len(), len(m.l))
	}
	for b, want := range m.l {
		l, err := x.Line(b)
		is(t, "Line", err, nil)
		same(t, "line "+strconv.Itoa(b), l, m.alone(want))
	}
	for _, b := range append([]int{len(m.l)}, edges...) {
		l, err := x.Line(b)
		is(t, "Line", err, m.noLine(b))
		if l != nil {
			t.Fatalf("Line(%d) beside an error", b)
		}
	}
}

// does does the same on a table and on the model: commands on a line.
func (m *model) does(t *testing.T, x *branch.Table, b int, l ...replay.Command) {
	t.Helper()
	for _, c := range l {
		at, r, err := x.Do(b, c)
		wantAt, wantR, wantErr := m.do(b, c)
		is(t, "Do", err, wantErr)
		if at != wantAt || r != wantR {
			t.Fatalf("Do(%d, %+v): %d, %+v, want %d, %+v", b, c, at, r, wantAt, wantR)
		}
	}
}

func (m *model) forks(t *testing.T, x *branch.Table, b, v int) {
	t.Helper()
	n, err := x.Fork(b, v)
	want, wantErr := m.fork(b, v)
	is(t, "Fork", err, wantErr)
	if n != want {
		t.Fatalf("Fork(%d, %d): %d, want %d", b, v, n, want)
	}
}

func (m *model) forwards(t *testing.T, x *branch.Table, a, b int) {
	t.Helper()
	is(t, "Forward", x.Forward(a, b), m.forward(a, b))
}

func (m *model) retains(t *testing.T, x *branch.Table, b, v int) {
	t.Helper()
	is(t, "Retain", x.Retain(b, v), m.retain(b, v))
}

// firsts are commands of a kind that end well as the first ones.
func firsts(kind int) []replay.Command {
	switch kind {
	case object.Text:
		return []replay.Command{insert(0, "abc"), cut(1, 1), insert(2, "\x00\xff"), {Op: insert(1, "b").Op, Of: 2}, insert(0, "abc"), cut(0, 4)}
	case object.Ledger:
		return []replay.Command{open("a"), open("b"), move("", "a", 5), move("a", "b", 5), {Op: move("b", "a", 5).Op, Of: 4}, move("", "b", 1)}
	}
	return []replay.Command{add("nut", 5), add("bolt", 1<<40), take("bolt", 1<<40), {Op: take("nut", 5).Op, Of: 1}, add("nut", 1), add("nut", 1)}
}

// nuts are n commands, all unlike.
func nuts(n int) []replay.Command {
	l := make([]replay.Command, n)
	for i := range l {
		l[i] = add("nut", i+1)
	}
	return l
}

// P20.1: the chapter's example.
func TestExample(t *testing.T) {
	x := branch.New(object.Stock)
	if at, r, err := x.Do(0, add("nut", 1)); at != 0 || r != (object.Result{}) || err != nil {
		t.Errorf("Do: %d, %+v, %v", at, r, err)
	}
	if b, err := x.Fork(0, 1); b != 1 || err != nil {
		t.Errorf("Fork: %d, %v", b, err)
	}
	x.Do(1, add("bolt", 2))
	is(t, "Forward", x.Forward(0, 1), nil)
	l, _ := x.Line(0)
	other, _ := x.Line(1)
	same(t, "line 0", l, other)
	if l.Len() != 2 {
		t.Errorf("Len: %d", l.Len())
	}
	x.Do(0, add("nut", 1))
	x.Do(1, add("bolt", 1))
	is(t, "Forward", x.Forward(0, 1), fault.In("forward", 0, api.ErrDiverged))
	is(t, "Forward", x.Forward(1, 0), fault.In("forward", 1, api.ErrDiverged))
}

// P20.1: a table of each kind has one line, as at first, and is its own; of no other kind.
func TestNew(t *testing.T) {
	for _, kind := range kinds {
		x, other := branch.New(kind), branch.New(kind)
		m := start(kind)
		m.holds(t, x)
		m.does(t, x, 0, firsts(kind)...)
		m.forks(t, x, 0, 3)
		m.holds(t, x)
		start(kind).holds(t, other)
	}
	for _, kind := range []int{math.MinInt, -3, -1, 0, 4, 300, math.MaxInt} {
		if x := branch.New(kind); x != nil {
			t.Errorf("a table of kind %d", kind)
		}
	}
}

// P20.1: Do answers the place and the result, or the result beside the error.
func TestDo(t *testing.T) {
	for _, x := range []struct {
		kind int
		c    replay.Command
		at   int
		r    object.Result
	}{
		{object.Text, cut(0, 1), 5, object.Result{Gone: "a"}},
		{object.Text, replay.Command{Op: cut(1, 2).Op, Of: 5}, 5, object.Result{Gone: "bc"}},
		{object.Text, insert(0, "x"), 5, object.Result{}},
		{object.Text, cut(99, 1), 0, object.Result{Err: api.ErrRange}},
		{object.Text, insert(-1, "x"), 0, object.Result{Err: api.ErrArg}},
		{object.Text, add("nut", 1), 0, object.Result{Err: api.ErrKind}},
		{object.Text, replay.Command{}, 0, object.Result{Err: api.ErrKind}},
		{object.Ledger, move("a", "b", 5), 5, object.Result{}},
		{object.Ledger, move("b", "a", 5), 0, object.Result{Err: api.ErrShort}},
		{object.Ledger, open("a"), 0, object.Result{Err: api.ErrThere}},
		{object.Stock, take("bolt", 1), 0, object.Result{Err: api.ErrNone}},
		{object.Stock, add("nut", 1<<40), 0, object.Result{Err: api.ErrOver}},
		{object.Stock, take("nut", 2), 0, object.Result{Err: api.ErrShort}},
		{object.Stock, take("nut", 1), 5, object.Result{}},
	} {
		table, m := branch.New(x.kind), start(x.kind)
		m.does(t, table, 0, firsts(x.kind)[:5]...)
		m.forks(t, table, 0, 5)
		m.forks(t, table, 0, 2)
		at, r, err := table.Do(1, x.c)
		is(t, "Do", err, fault.In("do", 1, x.r.Err))
		if at != x.at || r != x.r {
			t.Errorf("Do(1, %+v): %d, %+v, want %d, %+v", x.c, at, r, x.at, x.r)
		}
		m.do(1, x.c)
		m.holds(t, table)
	}
}

// P20.1: of a line that isn't there, Line's error comes first, and nothing changes.
func TestNoLine(t *testing.T) {
	x, m := branch.New(object.Stock), start(object.Stock)
	m.does(t, x, 0, nuts(3)...)
	m.forks(t, x, 0, 2)
	for len(m.l) <= 16 {
		for _, b := range append([]int{len(m.l)}, edges...) {
			if b < len(m.l) && b >= 0 {
				continue
			}
			none := fault.In("line", b, api.ErrBranch)
			for _, v := range []int{0, 2, -1, 99} {
				at, r, err := x.Do(b, replay.Command{})
				is(t, "Do", err, none)
				n, err := x.Fork(b, v)
				is(t, "Fork", err, none)
				if at != 0 || r != (object.Result{}) || n != 0 {
					t.Errorf("of line %d: %d, %+v, %d", b, at, r, n)
				}
				is(t, "Retain", x.Retain(b, v), none)
			}
			is(t, "Forward", x.Forward(b, 0), none)
			is(t, "Forward", x.Forward(0, b), none)
			is(t, "Forward", x.Forward(1, b), none)
			is(t, "Forward", x.Forward(b, b), none)
			is(t, "Forward", x.Forward(b, math.MinInt+2), none)
		}
		m.holds(t, x)
		if len(m.l) == 16 {
			break
		}
		m.forks(t, x, len(m.l)-1, 1)
	}
}

// P20.1: there are 16 lines at most; that comes ahead of a version that isn't there.
func TestForkFull(t *testing.T) {
	x, m := branch.New(object.Stock), start(object.Stock)
	m.does(t, x, 0, nuts(9)...)
	for b := 1; b < 16; b++ {
		n, err := x.Fork(b/2, 9-b/2)
		is(t, "Fork", err, fault.In("fork", b/2, nil))
		if n != b {
			t.Fatalf("Fork: %d, want %d", n, b)
		}
		m.fork(b/2, 9-b/2)
		m.does(t, x, b, add("bolt", b))
	}
	m.holds(t, x)
	for b := range 16 {
		for _, v := range append([]int{0, 1}, edges...) {
			n, err := x.Fork(b, v)
			is(t, "Fork", err, fault.In("fork", b, api.ErrFull))
			if n != 0 {
				t.Fatalf("Fork: %d", n)
			}
		}
	}
	m.holds(t, x)
	for b := range 16 {
		m.does(t, x, b, add("screw", 1))
		m.forwards(t, x, b, b)
		m.retains(t, x, b, 2)
	}
	m.holds(t, x)
}

// P20.1: a line branches off at any version that is there, of any line; the others are refused.
func TestFork(t *testing.T) {
	for _, kind := range kinds {
		all := firsts(kind)
		for floor := range len(all) + 1 {
			x, m := branch.New(kind), start(kind)
			m.does(t, x, 0, all...)
			m.retains(t, x, 0, floor)
			for v := range len(all) + 2 {
				m.forks(t, x, 0, v)
			}
			for _, v := range edges {
				m.forks(t, x, 0, v)
			}
			for b := range len(m.l) {
				m.forks(t, x, b, floor)
			}
			m.holds(t, x)
		}
	}
}

// P20.1: a line is caught up with just if the other one begins with all of it.
func TestForward(t *testing.T) {
	for _, kind := range kinds {
		all := firsts(kind)
		for n := range len(all) + 1 {
			for k := range len(all) + 1 {
				x, m := branch.New(kind), start(kind)
				m.does(t, x, 0, all[:min(n, k)]...)
				m.forks(t, x, 0, min(n, k))
				m.does(t, x, 0, all[min(n, k):n]...)
				m.does(t, x, 1, all[min(n, k):k]...)
				is(t, "Forward", x.Forward(0, 1), fault.In("forward", 0, map[bool]api.Errno{true: api.ErrDiverged}[n > k]))
				m.forward(0, 1)
				m.holds(t, x)
			}
		}
	}
}

// P20.1: which lines diverged: the same object behind other commands doesn't do.
func TestDiverged(t *testing.T) {
	for _, x := range []struct {
		a, b []replay.Command
		e    api.Errno
	}{
		{nuts(3), nuts(3), api.OK},
		{nuts(3), nuts(5), api.OK},
		{nuts(5), nuts(4), api.ErrDiverged},
		{[]replay.Command{add("nut", 1), add("bolt", 1)}, []replay.Command{add("bolt", 1), add("nut", 1)}, api.ErrDiverged},
		{[]replay.Command{add("nut", 2)}, []replay.Command{add("nut", 1), add("nut", 1)}, api.ErrDiverged},
		{nuts(4), append(nuts(3), add("nut", 5), add("nut", 4)), api.ErrDiverged},
		{nuts(4), append([]replay.Command{add("nut", 9)}, nuts(6)[1:]...), api.ErrDiverged},
		{[]replay.Command{add("nut", 1), {Op: take("nut", 1).Op, Of: 1}}, []replay.Command{add("nut", 1), take("nut", 1), add("nut", 1)}, api.ErrDiverged},
		{nil, nuts(2), api.OK},
		{nuts(2), nil, api.ErrDiverged},
		{nil, nil, api.OK},
	} {
		table, m := branch.New(object.Stock), start(object.Stock)
		m.forks(t, table, 0, 0)
		m.forks(t, table, 0, 0)
		m.does(t, table, 2, x.a...)
		m.does(t, table, 1, x.b...)
		is(t, "Forward", table.Forward(2, 1), fault.In("forward", 2, x.e))
		m.forward(2, 1)
		m.holds(t, table)
	}
}

// P20.1: what can't be told any more is refused; the line gets the other one's floor.
func TestForwardPruned(t *testing.T) {
	const most = 7
	for floor := range most + 1 {
		for n := range most + 1 {
			for own := range n + 1 {
				x, m := branch.New(object.Stock), start(object.Stock)
				m.does(t, x, 0, nuts(most)...)
				m.forks(t, x, 0, n)
				m.retains(t, x, 0, floor)
				m.retains(t, x, 1, own)
				var want error
				if n < floor {
					want = fault.In("forward", 1, fault.In("begins", n, fault.In("head", n, api.ErrPruned)))
				}
				is(t, "Forward", x.Forward(1, 0), want)
				m.forward(1, 0)
				m.holds(t, x)
				m.does(t, x, 1, add("bolt", 1))
				m.forwards(t, x, 0, 1)
				m.holds(t, x)
			}
		}
	}
}

// P20.1: a line of which the other one's commands went, and which is longer, diverged.
func TestForwardLonger(t *testing.T) {
	x, m := branch.New(object.Stock), start(object.Stock)
	m.does(t, x, 0, nuts(3)...)
	m.forks(t, x, 0, 3)
	m.does(t, x, 1, add("bolt", 1))
	m.retains(t, x, 0, 3)
	is(t, "Forward", x.Forward(1, 0), fault.In("forward", 1, api.ErrDiverged))
	is(t, "Forward", x.Forward(0, 1), nil)
	m.forward(0, 1)
	m.holds(t, x)
}

// P20.1: of a line, versions below one go; of those that aren't there none.
func TestRetain(t *testing.T) {
	x, m := branch.New(object.Text), start(object.Text)
	m.does(t, x, 0, firsts(object.Text)...)
	m.forks(t, x, 0, 5)
	for _, v := range append([]int{0, 3, 2, 3, 6, 5, 4, 7}, edges...) {
		m.retains(t, x, 1, v)
		m.holds(t, x)
	}
	m.retains(t, x, 0, 6)
	m.forks(t, x, 1, 5)
	m.does(t, x, 0, insert(0, "x"))
	m.holds(t, x)
}

// P20.1: the words of faults.
func TestWords(t *testing.T) {
	x := branch.New(object.Stock)
	for _, c := range nuts(9) {
		x.Do(0, c)
	}
	x.Fork(0, 3)
	x.Fork(0, 9)
	x.Do(2, add("bolt", 1))
	x.Do(0, add("nut", 1))
	x.Retain(0, 4)
	_, _, do := x.Do(1, take("bolt", 1))
	_, line := x.Line(3)
	_, future := x.Fork(0, 11)
	_, pruned := x.Fork(0, 3)
	for _, c := range []struct {
		err        error
		word, path string
	}{
		{line, "line 3: branch", "line/branch"},
		{do, "do 1: none", "do/none"},
		{future, "fork 0: branch 11: future", "fork/branch/future"},
		{pruned, "fork 0: branch 3: pruned", "fork/branch/pruned"},
		{x.Forward(7, 9), "line 7: branch", "line/branch"},
		{x.Forward(1, 9), "line 9: branch", "line/branch"},
		{x.Forward(1, 0), "forward 1: begins 3: head 3: pruned", "forward/begins/head/pruned"},
		{x.Forward(2, 0), "forward 2: diverged", "forward/diverged"},
		{x.Retain(2, 11), "keep 2: retain 11: version 11: future", "keep/retain/version/future"},
		{x.Retain(0, 3), "keep 0: retain 3: version 3: pruned", "keep/retain/version/pruned"},
	} {
		if c.err == nil || c.err.Error() != c.word || fault.Path(c.err) != c.path {
			t.Errorf("%v, want %s", c.err, c.word)
		}
	}
}

// P20.1: Line answers the line itself.
func TestLine(t *testing.T) {
	x := branch.New(object.Text)
	l, _ := x.Line(0)
	x.Do(0, insert(0, "a"))
	again, _ := x.Line(0)
	if l != again || l.Len() != 1 || l.Save() != "\x01a" {
		t.Errorf("%d, %x", l.Len(), l.Save())
	}
}

// P20.2: no call on one line changes another one, also where they were caught up with each other.
func TestApart(t *testing.T) {
	for _, kind := range kinds {
		all := firsts(kind)
		for v := range len(all) + 1 {
			x, m := branch.New(kind), start(kind)
			m.does(t, x, 0, all[:v]...)
			m.forks(t, x, 0, v)
			m.forks(t, x, 1, v)
			m.does(t, x, 1, all[v:]...)
			m.holds(t, x)
			m.forwards(t, x, 0, 1)
			m.holds(t, x)
			m.does(t, x, 1, one(kind, 1))
			m.holds(t, x)
			m.does(t, x, 0, one(kind, 2))
			m.holds(t, x)
			m.retains(t, x, 1, v)
			m.holds(t, x)
			m.retains(t, x, 0, len(all))
			m.holds(t, x)
			m.forwards(t, x, 2, 1)
			m.forwards(t, x, 0, 0)
			m.does(t, x, 1, one(kind, 3), one(kind, 4))
			m.does(t, x, 2, one(kind, 5))
			m.holds(t, x)
		}
	}
}

// one is a command of a kind that ends well behind the first ones.
func one(kind, n int) replay.Command {
	switch kind {
	case object.Text:
		return insert(0, strconv.Itoa(n))
	case object.Ledger:
		return move("", "", n)
	}
	return replay.Command{Op: add("screw", n).Op, Of: n}
}

// some is any command of a kind; some of them don't end well.
func some(r *rand.Rand, kind int) replay.Command {
	name := func() string { return string(rune('a' + r.Intn(3))) }
	var c replay.Command
	switch x := r.Intn(4); {
	case kind == object.Text && x < 2:
		c = cut(r.Intn(20), 1+r.Intn(6))
	case kind == object.Text:
		c = insert(r.Intn(20), strings.Repeat(name(), 1+r.Intn(9)))
	case kind == object.Ledger && x < 2:
		c = open(name())
	case kind == object.Ledger:
		c = move("", name(), 1+r.Intn(9))
	case x < 2:
		c = add(name(), 1+r.Intn(9))
	default:
		c = take(name(), 1+r.Intn(9))
	}
	if r.Intn(3) == 0 {
		c.Of = r.Intn(9)
	}
	return c
}

// P20.1, P20.2: behind any calls.
func TestAnyCalls(t *testing.T) {
	r := rand.New(rand.NewSource(41))
	had := map[string]int{}
	for round := range 150 {
		kind := kinds[round%3]
		x, m := branch.New(kind), start(kind)
		for range 60 {
			a, b := r.Intn(len(m.l)+1), r.Intn(len(m.l))
			v := m.l[b].floor + r.Intn(len(m.l[b].all)-m.l[b].floor+2) - r.Intn(2)
			switch r.Intn(10) {
			case 0, 1:
				m.forks(t, x, b, v)
			case 2, 3, 4:
				err := m.copied().forward(a, b)
				had[fault.Of(err).Error()]++
				m.forwards(t, x, a, b)
			case 5:
				if r.Intn(2) == 0 {
					m.retains(t, x, b, v)
				}
			default:
				m.does(t, x, a, some(r, kind))
			}
			if r.Intn(6) == 0 {
				m.holds(t, x)
			}
		}
		m.holds(t, x)
	}
	for _, word := range []string{"ok", "branch", "pruned", "diverged"} {
		if had[word] < 10 {
			t.Errorf("Forward: %s only %d times", word, had[word])
		}
	}
}

// copied is another model like it.
func (m *model) copied() *model {
	other := &model{kind: m.kind}
	for _, l := range m.l {
		other.l = append(other.l, line{slices.Clone(l.all), l.floor})
	}
	return other
}

// P1, K7: no call panics, whatever numbers come.
func TestNoPanic(t *testing.T) {
	for _, a := range append([]int{0, 1, 2}, edges...) {
		for _, b := range append([]int{0, 1, 2}, edges...) {
			x := branch.New(object.Stock)
			x.Do(0, add("nut", 1))
			x.Fork(0, 1)
			x.Do(a, replay.Command{Of: b, Op: add("nut", 1).Op})
			x.Fork(a, b)
			x.Forward(a, b)
			x.Retain(a, b)
			x.Do(a, replay.Command{Of: b})
			x.Line(a)
			x.Len()
		}
	}
	var zero branch.Table
	zero.Do(0, add("nut", 1))
	zero.Fork(0, 0)
	zero.Forward(0, 0)
	zero.Retain(0, 0)
	zero.Line(0)
	if zero.Len() != 0 {
		t.Errorf("Len: %d", zero.Len())
	}
}
