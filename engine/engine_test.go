package engine_test

import (
	"errors"
	"math"
	"slices"
	"strconv"
	"testing"

	"hindsight/api"
	"hindsight/branch"
	"hindsight/cells"
	"hindsight/command"
	"hindsight/engine"
	"hindsight/fault"
	"hindsight/history"
	"hindsight/ledger"
	"hindsight/machine"
	"hindsight/object"
	"hindsight/proc"
	"hindsight/replay"
	"hindsight/stock"
	"hindsight/text"
	"hindsight/wire"
)

// kinds are all that there are of objects.
var kinds = []int{object.Text, object.Ledger, object.Stock}

// edges are numbers that no process has.
var edges = []int{math.MinInt, math.MinInt + 1, -1 << 32, -2, -1, 64, 65, 1 << 32, math.MaxInt - 1, math.MaxInt}

func insert(b, at int, s string) command.Command {
	return command.Command{Kind: command.Do, B: b, Op: object.Op{Kind: object.Text, Text: text.Op{Kind: text.Insert, At: at, S: s}}}
}

func cut(b, at, n int) command.Command {
	return command.Command{Kind: command.Do, B: b, Op: object.Op{Kind: object.Text, Text: text.Op{Kind: text.Delete, At: at, N: n}}}
}

func open(b int, name string) command.Command {
	return command.Command{Kind: command.Do, B: b, Op: object.Op{Kind: object.Ledger, Ledger: ledger.Op{Kind: ledger.Open, Name: name}}}
}

func move(b int, from, to string, amount int) command.Command {
	return command.Command{Kind: command.Do, B: b, Op: object.Op{Kind: object.Ledger, Ledger: ledger.Op{Kind: ledger.Move, Name: from, To: to, Amount: amount}}}
}

func add(b int, name string, n int) command.Command {
	return command.Command{Kind: command.Do, B: b, Op: object.Op{Kind: object.Stock, Stock: stock.Op{Kind: stock.Add, Name: name, N: n}}}
}

func take(b int, name string, n int) command.Command {
	return command.Command{Kind: command.Do, B: b, Op: object.Op{Kind: object.Stock, Stock: stock.Op{Kind: stock.Take, Name: name, N: n}}}
}

func undo(b, n int) command.Command {
	return command.Command{Kind: command.Undo, B: b, N: n}
}

func fork(b, n int) command.Command {
	return command.Command{Kind: command.Fork, B: b, N: n}
}

func forward(b, a int) command.Command {
	return command.Command{Kind: command.Forward, B: b, A: a}
}

func retain(b, n int) command.Command {
	return command.Command{Kind: command.Retain, B: b, N: n}
}

func change(c command.Command) engine.Ask {
	return engine.Ask{Kind: engine.Change, C: c}
}

func asOf(b, v int) engine.Ask {
	return engine.Ask{Kind: engine.AsOf, B: b, V: v}
}

func head(b int) engine.Ask {
	return engine.Ask{Kind: engine.Head, B: b}
}

func leaf(b, i, n int) engine.Ask {
	return engine.Ask{Kind: engine.Leaf, B: b, V: i, N: n}
}

func prefix(b, m, n int) engine.Ask {
	return engine.Ask{Kind: engine.Prefix, B: b, V: m, N: n}
}

// isFault looks whether an error is the fault of a number, in a step, at a place.
func isFault(t *testing.T, name string, err error, step string, at int, want api.Errno) {
	t.Helper()
	var f *fault.Fault
	if !errors.As(err, &f) || error(f) != err || *f != (fault.Fault{Step: step, At: at, Err: want}) {
		t.Fatalf("%s: %v, want %s %d: %v", name, err, step, at, want)
	}
}

// start is a new engine, which may be.
func start(t *testing.T, kind int, p proc.Place) *engine.Engine {
	t.Helper()
	e, err := engine.New(kind, p)
	if err != nil || e == nil {
		t.Fatalf("New of %+v: %v", p, err)
	}
	return e
}

// wants lets a client want what it may.
func wants(t *testing.T, e *engine.Engine, who int, l ...engine.Ask) {
	t.Helper()
	if err := e.Want(who, l...); err != nil {
		t.Fatalf("Want of %d: %v", who, err)
	}
}

// runs picks processes.
func runs(t *testing.T, e *engine.Engine, picks ...int) {
	t.Helper()
	if err := e.Run(picks...); err != nil {
		t.Fatalf("Run: %v", err)
	}
}

// ends picks a process, till all that is wanted of it is answered: the answers that came.
func ends(t *testing.T, e *engine.Engine, who int) []string {
	t.Helper()
	before := len(e.Calls())
	for range (e.Left(who) + 1) * e.Place().Bound() {
		if e.Idle(who) && e.Left(who) == 0 {
			break
		}
		runs(t, e, who)
	}
	var answers []string
	for _, c := range e.Calls()[before:] {
		if c.Who != who || c.Open() {
			t.Fatalf("%+v isn't answered to %d", c, who)
		}
		answers = append(answers, c.Answer)
	}
	return answers
}

// asks lets a process be asked things, one by one, and nobody else: the answers.
func asks(t *testing.T, e *engine.Engine, who int, l ...engine.Ask) []string {
	t.Helper()
	wants(t, e, who, l...)
	answers := ends(t, e, who)
	if len(answers) != len(l) {
		t.Fatalf("%d answers of %d asks", len(answers), len(l))
	}
	return answers
}

// replied is what a reply says.
func replied(t *testing.T, reply string) (api.Errno, string) {
	t.Helper()
	r := wire.Read(reply)
	e, s := api.Errno(r.Upto(int(api.ErrBusy))), r.Str(1<<20)
	if r.End() != api.OK {
		t.Fatalf("%x isn't a reply", reply)
	}
	return e, s
}

// told is all that an engine tells of its own.
func told(e *engine.Engine) []string {
	var l []string
	for _, c := range e.Calls() {
		l = append(l, strconv.Itoa(c.Who)+" "+strconv.Itoa(c.From)+" "+strconv.Itoa(c.To), c.Ask, c.Answer)
	}
	for _, i := range e.Order() {
		l = append(l, strconv.Itoa(i))
	}
	for who := range e.Place().Procs {
		l = append(l, "left "+strconv.Itoa(e.Left(who)), strconv.Itoa(e.Accesses(who))+strconv.FormatBool(e.Idle(who)))
	}
	return append(l, "most "+strconv.Itoa(e.Most()), "decided "+strconv.Itoa(e.Len()))
}

// callsAre looks at all calls.
func callsAre(t *testing.T, e *engine.Engine, want ...history.Call) {
	t.Helper()
	if l := e.Calls(); !slices.Equal(l, want) {
		t.Fatalf("Calls: %+v, want %+v", l, want)
	}
}

// orderIs looks at the order.
func orderIs(t *testing.T, e *engine.Engine, want ...int) {
	t.Helper()
	if l := e.Order(); !slices.Equal(l, want) {
		t.Fatalf("Order: %v, want %v", l, want)
	}
}

// P24.1: the chapter's example: both are decided, in some order.
func TestExample(t *testing.T) {
	e := start(t, object.Text, proc.Place{Procs: 2, Slots: 2})
	a, b := change(insert(0, 0, "a")), change(insert(0, 0, "b"))
	wants(t, e, 0, a)
	wants(t, e, 1, b)
	for range 12 {
		runs(t, e, 0, 1)
	}
	first, second := "\x00\x03\x00\x00\x00", "\x00\x03\x00\x01\x00"
	if order := e.Order(); slices.Equal(order, []int{1, 0}) {
		first, second = second, first
	} else if !slices.Equal(order, []int{0, 1}) {
		t.Fatalf("Order: %v", order)
	}
	l := e.Calls()
	if len(l) != 2 || l[0].Ask != a.Text() || l[0].Answer != first || l[1].Ask != b.Text() || l[1].Answer != second || !e.Full() {
		t.Errorf("%+v, %d decided", l, e.Len())
	}
}

// P24.1: of a new engine nothing is to be done, and nothing was.
func TestNew(t *testing.T) {
	for _, kind := range kinds {
		for _, p := range []proc.Place{{Procs: 1}, {Procs: 1, Slots: 1}, {Procs: 3, Slots: 2}, {Procs: 64}, {Procs: 64, Slots: 256}} {
			e := start(t, kind, p)
			for range 2 {
				if e.Place() != p || e.Len() != 0 || e.Most() != 0 || len(e.Calls()) != 0 || len(e.Order()) != 0 || len(e.Busy()) != 0 {
					t.Errorf("of %+v: %q", p, told(e))
				}
				l, err := e.Table().Line(0)
				if e.Table().Len() != 1 || err != nil || l.Kind() != kind || l.Len() != 0 {
					t.Errorf("of %+v: %d lines, %v", p, e.Table().Len(), err)
				}
				for who := range p.Procs {
					if e.Left(who) != 0 || !e.Idle(who) || e.Accesses(who) != 0 {
						t.Errorf("%d left, %d accesses of %d", e.Left(who), e.Accesses(who), who)
					}
					runs(t, e, who)
				}
				runs(t, e)
			}
		}
	}
}

// P24.1: what engines may not be: the machine's error itself.
func TestNewErrors(t *testing.T) {
	for _, x := range []struct {
		kind int
		p    proc.Place
		at   int
		e    api.Errno
	}{
		{object.Text, proc.Place{}, 0, api.ErrArg},
		{object.Ledger, proc.Place{Procs: 65, Slots: 1}, 65, api.ErrArg},
		{object.Stock, proc.Place{Procs: 7, Slots: 257}, 7, api.ErrArg},
		{object.Stock, proc.Place{Procs: math.MinInt, Slots: math.MinInt}, math.MinInt, api.ErrArg},
		{0, proc.Place{Procs: 3, Slots: -1}, 3, api.ErrArg},
		{0, proc.Place{Procs: 3, Slots: 2}, 0, api.ErrKind},
		{4, proc.Place{Procs: 1}, 4, api.ErrKind},
		{math.MinInt, proc.Place{Procs: 64, Slots: 256}, math.MinInt, api.ErrKind},
	} {
		e, err := engine.New(x.kind, x.p)
		isFault(t, "New", err, "machine", x.at, x.e)
		if e != nil {
			t.Errorf("New of %d, %+v: not nil beside %v", x.kind, x.p, err)
		}
	}
}

// P24.1: what is wanted of a process is done in its order, behind what was wanted ahead of it.
func TestWant(t *testing.T) {
	e := start(t, object.Text, proc.Place{Procs: 3, Slots: 6})
	a, b, c, d := change(insert(0, 0, "a")), asOf(0, 1), change(insert(0, 0, "c")), head(0)
	wants(t, e, 1, a, b)
	wants(t, e, 1)
	wants(t, e, 0, d)
	wants(t, e, 1, c)
	if e.Left(0) != 1 || e.Left(1) != 3 || e.Left(2) != 0 || len(e.Calls()) != 0 {
		t.Fatalf("%q", told(e))
	}
	runs(t, e, 1)
	if e.Left(1) != 2 {
		t.Errorf("%d left behind the first pick", e.Left(1))
	}
	wants(t, e, 1, d, a)
	if e.Left(1) != 4 {
		t.Errorf("%d left behind two more", e.Left(1))
	}
	ends(t, e, 0)
	ends(t, e, 1)
	var got []string
	for _, x := range e.Calls() {
		got = append(got, strconv.Itoa(x.Who)+x.Ask)
	}
	want := []string{"1" + a.Text(), "0" + d.Text(), "1" + b.Text(), "1" + c.Text(), "1" + d.Text(), "1" + a.Text()}
	if !slices.Equal(got, want) {
		t.Errorf("%q, want %q", got, want)
	}
}

// P24.1, K2: what may not be wanted: first that there is no such process, then the first ask that may not be; those ahead of it are wanted.
func TestWantErrors(t *testing.T) {
	e := start(t, object.Text, proc.Place{Procs: 3, Slots: 6})
	a, b, wrong := change(insert(0, 0, "a")), asOf(0, 1), engine.Ask{Kind: 6}
	for _, who := range append([]int{3, 4, 63}, edges...) {
		isFault(t, "Want", e.Want(who), "want", who, api.ErrRange)
		isFault(t, "Want", e.Want(who, a), "want", who, api.ErrRange)
		isFault(t, "Want", e.Want(who, wrong, a), "want", who, api.ErrRange)
		if e.Left(who) != 0 {
			t.Errorf("%d left of %d", e.Left(who), who)
		}
	}
	isFault(t, "Want", e.Want(0, wrong), "want", 0, api.ErrKind)
	isFault(t, "Want", e.Want(0, engine.Ask{Kind: engine.Change, C: a.C, V: 1}, wrong, a), "want", 0, api.ErrForm)
	isFault(t, "Want", e.Want(0, change(undo(-1, 0)), a), "want", 0, api.ErrArg)
	if e.Left(0) != 0 {
		t.Errorf("%d left", e.Left(0))
	}
	isFault(t, "Want", e.Want(0, a, b, change(cut(0, 201, 1)), wrong, b), "want", 2, change(cut(0, 201, 1)).Check())
	isFault(t, "Want", e.Want(0, b, engine.Ask{}), "want", 1, api.ErrKind)
	if e.Left(0) != 3 || e.Left(1) != 0 || e.Left(2) != 0 || len(e.Calls()) != 0 {
		t.Fatalf("%q", told(e))
	}
	ends(t, e, 0)
	var got []string
	for _, c := range e.Calls() {
		got = append(got, c.Ask)
	}
	if !slices.Equal(got, []string{a.Text(), b.Text(), b.Text()}) {
		t.Errorf("%q", got)
	}
}

// P24.1: nothing is done by a pick of what is no process, or has nothing to do; no step counts for it.
func TestNothingToDo(t *testing.T) {
	e := start(t, object.Text, proc.Place{Procs: 3, Slots: 4})
	idle := func(l ...int) {
		t.Helper()
		was := told(e)
		for _, who := range append(append(l, 3, 4, 63), edges...) {
			if err := e.Pick(who); err != nil {
				t.Fatalf("Pick of %d: %v", who, err)
			}
		}
		runs(t, e, append(edges, l...)...)
		if !slices.Equal(told(e), was) {
			t.Fatalf("%q, then %q", was, told(e))
		}
	}
	idle(0, 1, 2)
	a := change(insert(0, 0, "a"))
	wants(t, e, 1, a, head(0))
	for range 4 {
		idle(0, 2)
		runs(t, e, 1)
	}
	callsAre(t, e, history.Call{Who: 1, From: 0, To: 3, Ask: a.Text(), Answer: "\x00\x03\x00\x00\x00"})
	idle(0, 2)
	runs(t, e, 1)
	idle(0, 1, 2)
	if l := e.Calls(); len(l) != 2 || l[1].From != 4 || l[1].To != 4 {
		t.Errorf("Calls: %+v", l)
	}
}

// P24.1: a call begins when its process is picked, and takes a step by that; each step of any process is one of the history.
func TestSteps(t *testing.T) {
	e := start(t, object.Stock, proc.Place{Procs: 2, Slots: 3})
	nut, bolt := change(add(0, "nut", 1)), change(add(0, "bolt", 1))
	wants(t, e, 0, nut, head(7))
	wants(t, e, 1, bolt)
	callsAre(t, e)
	call := func(who, from, to int, a engine.Ask, answer string) history.Call {
		return history.Call{Who: who, From: from, To: to, Ask: a.Text(), Answer: answer}
	}
	runs(t, e, 0)
	callsAre(t, e, call(0, 0, -1, nut, ""))
	if e.Accesses(0) != 1 || !slices.Equal(e.Busy(), []int{0}) || e.Left(0) != 1 {
		t.Fatalf("%q", told(e))
	}
	runs(t, e, 0, 0)
	runs(t, e, 1) // its wish is written, when the first slot isn't decided yet
	callsAre(t, e, call(0, 0, -1, nut, ""), call(1, 3, -1, bolt, ""))
	orderIs(t, e)
	runs(t, e, 0)
	callsAre(t, e, call(0, 0, 4, nut, "\x00\x03\x00\x00\x00"), call(1, 3, -1, bolt, ""))
	orderIs(t, e, 0)
	runs(t, e, 0) // slot 1 is empty: one is decided, and there is no line 7
	callsAre(t, e, call(0, 0, 4, nut, "\x00\x03\x00\x00\x00"), call(1, 3, -1, bolt, ""), call(0, 5, 5, head(7), "\x0f\x00"))
	orderIs(t, e, 0, 2)
	runs(t, e, 0, 1, 1, 1, 1)
	callsAre(t, e, call(0, 0, 4, nut, "\x00\x03\x00\x00\x00"), call(1, 3, 9, bolt, "\x00\x03\x00\x01\x00"), call(0, 5, 5, head(7), "\x0f\x00"))
	orderIs(t, e, 0, 2, 1)
	if e.Most() != 5 || len(e.Busy()) != 0 || e.Accesses(0) != 5 || e.Accesses(1) != 5 {
		t.Errorf("%q", told(e))
	}
}

// P24.1: what Changes of each kind are answered, also with errors: those are decided all the same.
func TestChanges(t *testing.T) {
	e := start(t, object.Text, proc.Place{Procs: 2, Slots: 14})
	l := []struct {
		c    command.Command
		want string
	}{
		{insert(0, 0, "abc"), "\x00\x03\x00\x00\x00"},
		{cut(0, 1, 2), "\x00\x05\x00\x01\x02bc"},
		{fork(0, 1), "\x00\x03\x00\x01\x00"},
		{insert(1, 3, "d"), "\x00\x03\x00\x01\x00"},
		{undo(0, 1), "\x00\x03\x00\x02\x00"},
		{forward(1, 0), "\x13\x03\x13\x00\x00"},
		{fork(0, 3), "\x00\x03\x00\x02\x00"},
		{insert(2, 0, "x"), "\x00\x03\x00\x03\x00"},
		{forward(0, 2), "\x00\x03\x00\x00\x00"},
		{retain(0, 2), "\x00\x03\x00\x02\x00"},
		{fork(0, 1), "\x0e\x03\x0e\x00\x00"},
		{cut(5, 0, 1), "\x0f\x03\x0f\x00\x00"},
		{add(0, "nut", 1), "\x05\x03\x05\x00\x00"},
		{undo(0, 9), "\x0d\x03\x0d\x00\x00"},
	}
	for k, x := range l {
		if got := asks(t, e, k%2, change(x.c)); got[0] != x.want {
			t.Errorf("%+v: %x, want %x", x.c, got[0], x.want)
		}
		if e.Len() != k+1 {
			t.Errorf("%d are decided behind %d", e.Len(), k)
		}
	}
	for who := range 2 {
		if got := asks(t, e, who, change(insert(0, 0, "y")), change(command.Command{Kind: command.Retain, N: 4})); !slices.Equal(got, []string{"\x07\x00", "\x07\x00"}) {
			t.Errorf("of a full log: %x", got)
		}
	}
	if got := asks(t, e, 1, asOf(0, 4)); got[0] != "\x00\x05\x04xabc" {
		t.Errorf("line 0: %x", got[0])
	}
}

// P24.1: what reads are answered: the version's bytes, the root's, the proof's; or an error's number, and nothing.
func TestReads(t *testing.T) {
	e := start(t, object.Text, proc.Place{Procs: 2, Slots: 9})
	for i, got := range asks(t, e, 0, change(insert(0, 0, "a")), change(insert(0, 1, "b")), change(insert(0, 2, "c")), change(fork(0, 2)), change(insert(0, 0, "d")), change(retain(0, 2)), change(insert(1, 0, "e"))) {
		if n, _ := replied(t, got); n != api.OK {
			t.Fatalf("%d: %v", i, n)
		}
	}
	line := func(b int) *replay.Line {
		l, err := e.Table().Line(b)
		if err != nil {
			t.Fatal(err)
		}
		return l
	}
	if line(0).Save() != "\x04dabc" || line(0).Len() != 4 || line(1).Save() != "\x03eab" {
		t.Fatalf("%q, %q", line(0).Save(), line(1).Save())
	}
	for _, x := range []struct {
		a    engine.Ask
		want string
	}{
		{asOf(0, 2), "\x00\x03\x02ab"},
		{asOf(0, 3), "\x00\x04\x03abc"},
		{asOf(0, 4), "\x00\x05\x04dabc"},
		{asOf(1, 3), "\x00\x04\x03eab"},
		{asOf(1, 0), "\x00\x01\x00"},
		{engine.Ask{Kind: engine.AsOf, V: 4, N: -9}, "\x00\x05\x04dabc"},
		{asOf(0, 1), "\x0e\x00"},
		{asOf(0, 5), "\x0d\x00"},
		{asOf(0, -1), "\x0d\x00"},
		{asOf(1, math.MaxInt), "\x0d\x00"},
		{asOf(1, math.MinInt), "\x0d\x00"},
		{leaf(0, 1, 4), "\x0e\x00"},
		{leaf(0, 4, 4), "\x06\x00"},
		{leaf(0, 2, 5), "\x06\x00"},
		{leaf(0, -1, 4), "\x06\x00"},
		{leaf(1, math.MinInt, math.MaxInt), "\x06\x00"},
		{prefix(0, 1, 4), "\x0e\x00"},
		{prefix(0, 0, 4), "\x0e\x00"},
		{prefix(0, 4, 3), "\x06\x00"},
		{prefix(0, 4, 5), "\x06\x00"},
		{prefix(1, -1, 3), "\x06\x00"},
		{prefix(1, math.MinInt, math.MaxInt), "\x06\x00"},
		{prefix(1, 0, 3), "\x00\x04\x02\x00\x03\x00"},
		{prefix(1, 3, 3), "\x00\x04\x02\x03\x03\x00"},
		{prefix(0, 4, 4), "\x00\x04\x02\x04\x04\x00"},
		{leaf(1, 0, 1), "\x00\x04\x01\x00\x01\x00"},
	} {
		if got := asks(t, e, 1, x.a)[0]; got != x.want {
			t.Errorf("%+v: %x, want %x", x.a, got, x.want)
		}
	}
	for kind := engine.AsOf; kind <= engine.Prefix; kind++ {
		for _, b := range []int{2, 15, 16, -1, math.MaxInt, math.MinInt} {
			if got := asks(t, e, 1, engine.Ask{Kind: kind, B: b, V: 2, N: 3})[0]; got != "\x0f\x00" {
				t.Errorf("%d of line %d: %x", kind, b, got)
			}
		}
	}
}

// P24.1: the root and the proofs are those of the line, as one table has them.
func TestRootsAndProofs(t *testing.T) {
	e, one := start(t, object.Stock, proc.Place{Procs: 3, Slots: 9}), branch.New(object.Stock)
	for k, c := range []command.Command{add(0, "nut", 1), add(0, "bolt", 2), fork(0, 1), add(1, "pin", 3), undo(0, 0), retain(0, 1), add(1, "nut", 4), forward(1, 1), add(0, "cog", 5)} {
		asks(t, e, k%3, change(c))
		command.Apply(one, c)
		for b := range one.Len() {
			line, _ := one.Line(b)
			h, err := line.Head(line.Len())
			if got := asks(t, e, 2, engine.Ask{Kind: engine.Head, B: b, V: k, N: -k})[0]; err != nil || got != engine.Reply(api.OK, string(h.Root[:])) {
				t.Fatalf("behind %d: the root of line %d: %x, want %x", k, b, got, h.Root)
			}
			for n := range line.Len() + 1 {
				for i := range n + 1 {
					p, err := line.Leaf(i, n)
					if got := asks(t, e, 0, leaf(b, i, n))[0]; got != engine.Reply(fault.Of(err), beside(err, p.Text())) {
						t.Fatalf("behind %d: leaf %d of %d of line %d: %x, want %v, %x", k, i, n, b, got, err, p.Text())
					}
					p, err = line.Prefix(i, n)
					if got := asks(t, e, 0, prefix(b, i, n))[0]; got != engine.Reply(fault.Of(err), beside(err, p.Text())) {
						t.Fatalf("behind %d: %d of %d of line %d: %x, want %v, %x", k, i, n, b, got, err, p.Text())
					}
				}
			}
		}
	}
}

// beside is what is answered beside an error: nothing; else a text.
func beside(err error, s string) string {
	if err != nil {
		return ""
	}
	return s
}

// P24.1: a read is of the step at which it ends, not of the one at which it began.
func TestReadsAtItsEnd(t *testing.T) {
	e := start(t, object.Text, proc.Place{Procs: 2, Slots: 3})
	asks(t, e, 0, change(insert(0, 0, "a")))
	wants(t, e, 1, asOf(0, 2), asOf(0, 3))
	runs(t, e, 1) // slot 0 is decided
	asks(t, e, 0, change(insert(0, 0, "b")))
	runs(t, e, 1, 1) // so is slot 1, and slot 2 isn't
	asks(t, e, 0, change(insert(0, 0, "c")))
	runs(t, e, 1, 1) // slot 2, and then there is none any more
	callsAre(t, e,
		history.Call{Who: 0, From: 0, To: 3, Ask: change(insert(0, 0, "a")).Text(), Answer: "\x00\x03\x00\x00\x00"},
		history.Call{Who: 1, From: 4, To: 10, Ask: asOf(0, 2).Text(), Answer: "\x00\x03\x02ba"},
		history.Call{Who: 0, From: 5, To: 8, Ask: change(insert(0, 0, "b")).Text(), Answer: "\x00\x03\x00\x01\x00"},
		history.Call{Who: 0, From: 11, To: 14, Ask: change(insert(0, 0, "c")).Text(), Answer: "\x00\x03\x00\x02\x00"},
		history.Call{Who: 1, From: 15, To: 16, Ask: asOf(0, 3).Text(), Answer: "\x00\x04\x03cba"})
	orderIs(t, e, 0, 2, 1, 3, 4)
}

// P24.1: a Change that others decided stands in the order, though its own process never steps again; its call stays open.
func TestOrderHasOpenCalls(t *testing.T) {
	e := start(t, object.Stock, proc.Place{Procs: 2, Slots: 2})
	bolt := change(add(0, "bolt", 1))
	wants(t, e, 1, bolt)
	runs(t, e, 1)
	asks(t, e, 0, change(add(0, "nut", 1)), asOf(0, 1))
	orderIs(t, e, 1, 2)
	if got := asks(t, e, 0, change(add(0, "nut", 1))); got[0] != "\x07\x00" {
		t.Errorf("of a full log: %x", got)
	}
	orderIs(t, e, 1, 2, 0, 3) // by the ask itself slot 1, of the other one, was decided
	asks(t, e, 0, asOf(0, 2))
	orderIs(t, e, 1, 2, 0, 3, 4)
	if c := e.Calls()[0]; c != (history.Call{Who: 1, From: 0, To: -1, Ask: bolt.Text()}) {
		t.Errorf("%+v", c)
	}
	ends(t, e, 1)
	orderIs(t, e, 1, 2, 0, 3, 4)
	if c := e.Calls()[0]; c.Answer != "\x00\x03\x00\x01\x00" {
		t.Errorf("%+v", c)
	}
}

// P24.1: a call that began, and isn't decided, stands nowhere in the order.
func TestOrderHasNoOthers(t *testing.T) {
	e := start(t, object.Stock, proc.Place{Procs: 3, Slots: 1})
	for who := range 2 {
		wants(t, e, who, change(add(0, "nut", 1)))
	}
	wants(t, e, 2, head(0))
	runs(t, e, 0, 1, 0, 1, 0)
	orderIs(t, e)
	runs(t, e, 0)
	orderIs(t, e, 0)
	runs(t, e, 2)
	orderIs(t, e, 0)
	runs(t, e, 1)
	orderIs(t, e, 0)
	runs(t, e, 1) // there is no slot any more
	orderIs(t, e, 0, 1)
	runs(t, e, 2)
	orderIs(t, e, 0, 1, 2)
}

// P24.1: of a log that has no slots all Changes are told that it is full, at the first step, and reads read.
func TestNoSlots(t *testing.T) {
	e := start(t, object.Text, proc.Place{Procs: 2})
	got := asks(t, e, 0, change(insert(0, 0, "a")), asOf(0, 0), asOf(0, 1), change(undo(9, 9)))
	if !slices.Equal(got, []string{"\x07\x00", "\x00\x01\x00", "\x0d\x00", "\x07\x00"}) {
		t.Errorf("%x", got)
	}
	orderIs(t, e, 0, 1, 2, 3)
	if e.Most() != 1 || e.Len() != 0 || e.Accesses(0) != 4 {
		t.Errorf("%q", told(e))
	}
}

// P24.1: the most steps for one call count, of whatever process, also while it is open; not those of several.
func TestMost(t *testing.T) {
	e := start(t, object.Stock, proc.Place{Procs: 3, Slots: 6})
	is := func(want int) {
		t.Helper()
		if e.Most() != want {
			t.Fatalf("Most: %d, want %d", e.Most(), want)
		}
	}
	wants(t, e, 0, head(0), head(0), head(0))
	runs(t, e, 0, 0, 0)
	is(1)
	nut := change(add(0, "nut", 1))
	wants(t, e, 1, nut, nut)
	for _, want := range []int{1, 2, 3, 4, 4, 4, 4, 4} {
		runs(t, e, 1, 2)
		is(want)
	}
	wants(t, e, 0, nut, nut, head(0))
	for _, want := range []int{4, 4, 4, 4, 5, 6, 6, 6} { // two slots that are decided, the wish, and three of the next slot
		runs(t, e, 0)
		is(want)
	}
	asks(t, e, 2, head(0))
	is(6)
}

// P24.1: the machine's calls are the engine's.
func TestMachineCalls(t *testing.T) {
	p := proc.Place{Procs: 2, Slots: 3}
	e := start(t, object.Stock, p)
	var _ *machine.Machine = e.Machine
	nut := add(0, "nut", 1)
	asks(t, e, 1, change(nut))
	wants(t, e, 0, change(nut))
	runs(t, e, 0)
	r, err := e.At(0)
	if err != nil || r != (proc.Record{Who: 1, Seq: 1, Body: nut.Text()}) || e.Answer(0) != "\x00\x00\x00" || e.Answer(1) != "" {
		t.Errorf("%+v, %v, %q", r, err, e.Answer(0))
	}
	if e.Place() != p || e.Len() != 1 || e.Full() || e.Last(1) != 1 || e.Find(1, 1) != 0 || e.Find(0, 1) != -1 || !slices.Equal(e.Of(1), []int{0}) {
		t.Errorf("%d decided", e.Len())
	}
	if !slices.Equal(e.Busy(), []int{0}) || e.Idle(0) || !e.Idle(1) || !e.Idle(2) || e.Accesses(1) != 4 || e.Accesses(0) != 1 {
		t.Errorf("Busy: %v", e.Busy())
	}
	if l, err := e.Table().Line(0); err != nil || l.Save() != "\x01\x03nut\x01" {
		t.Errorf("the table: %v", err)
	}
}

// P24.1, K3: what was handed in stays, and isn't kept; what is answered is new.
func TestSharesNothing(t *testing.T) {
	e := start(t, object.Text, proc.Place{Procs: 2, Slots: 4})
	l := make([]engine.Ask, 2, 9)
	l[0], l[1] = change(insert(0, 0, "a")), asOf(0, 1)
	was := slices.Clone(l)
	wants(t, e, 0, l...)
	wants(t, e, 0, head(0))
	if !slices.Equal(l, was) || l[:3][2] != (engine.Ask{}) {
		t.Errorf("Want changed %+v", l[:3])
	}
	l[0], l[1] = head(1), head(2)
	picks := []int{0, 0, 0, 0, 0, 0, 0}
	runs(t, e, picks...)
	if !slices.Equal(picks, make([]int, 7)) {
		t.Errorf("Run changed %v", picks)
	}
	calls, order := e.Calls(), e.Order()
	if len(calls) != 3 || calls[0].Ask != was[0].Text() || calls[1].Ask != was[1].Text() {
		t.Fatalf("%+v", calls)
	}
	kept := slices.Clone(calls)
	clear(calls)
	clear(order)
	callsAre(t, e, kept...)
	orderIs(t, e, 0, 1, 2)
	calls, order = e.Calls(), e.Order()
	_ = append(order, 7)
	asks(t, e, 1, change(insert(0, 0, "b")))
	if !slices.Equal(calls, kept) || !slices.Equal(order, []int{0, 1, 2}) || len(e.Calls()) != 4 {
		t.Errorf("%+v, %v", calls, order)
	}
	orderIs(t, e, 0, 1, 2, 3)
}

// P24.1: each engine has all of its own.
func TestIsItsOwn(t *testing.T) {
	p := proc.Place{Procs: 2, Slots: 3}
	e, other := start(t, object.Text, p), start(t, object.Text, p)
	was := told(other)
	asks(t, e, 0, change(insert(0, 0, "a")), head(0))
	wants(t, e, 1, head(0))
	if !slices.Equal(told(other), was) {
		t.Errorf("%q, then %q", was, told(other))
	}
	wants(t, other, 1, asOf(0, 0))
	ends(t, other, 1)
	callsAre(t, other, history.Call{Who: 1, Ask: asOf(0, 0).Text(), Answer: "\x00\x01\x00"})
	if e.Left(1) != 1 {
		t.Errorf("%d left", e.Left(1))
	}
}

// K7: nothing is promised behind the machine's Begin, Head, Step and Look, which aren't the engine's; but it ends.
func TestOthersCalls(t *testing.T) {
	for round := range 64 {
		e := start(t, object.Text, proc.Place{Procs: 2, Slots: 3})
		for who := range 2 {
			wants(t, e, who, change(insert(0, 0, "a")), head(0), change(insert(0, 0, "b")))
		}
		for i := range 40 {
			who := i % 2
			switch (round >> (i % 6)) & 1 * (i % 5) {
			case 1:
				e.Begin(who, insert(0, 0, "x"))
			case 2:
				e.Head(who)
			case 3:
				e.Step(who)
			case 4:
				m := cells.New(e.Place().Cells())
				r := proc.Record{Who: 1, Seq: 1 + i, Body: insert(0, 0, "y").Text()}
				m.Do(0, cells.Access{Kind: cells.Write, Cell: e.Place().Slot(e.Len()), New: r.Text()})
				e.Look(m)
			}
			e.Pick(who)
			e.Run(who, 1-who)
			e.Calls()
			e.Order()
		}
	}
}
