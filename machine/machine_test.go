package machine_test

import (
	"errors"
	"math"
	"slices"
	"strconv"
	"strings"
	"testing"

	"hindsight/api"
	"hindsight/branch"
	"hindsight/cells"
	"hindsight/command"
	"hindsight/fault"
	"hindsight/ledger"
	"hindsight/machine"
	"hindsight/object"
	"hindsight/proc"
	"hindsight/stock"
	"hindsight/text"
)

// kinds are all that there are of objects.
var kinds = []int{object.Text, object.Ledger, object.Stock}

// edges are numbers that no process has, and no slot.
var edges = []int{math.MinInt, math.MinInt + 1, -1 << 32, -2, -1, 256, 257, 1 << 32, math.MaxInt - 1, math.MaxInt}

func insert(b, at int, s string) command.Command {
	return command.Command{Kind: command.Do, B: b, Op: object.Op{Kind: object.Text, Text: text.Op{Kind: text.Insert, At: at, S: s}}}
}

func cut(b, at, n int) command.Command {
	return command.Command{Kind: command.Do, B: b, Op: object.Op{Kind: object.Text, Text: text.Op{Kind: text.Delete, At: at, N: n}}}
}

func open(b int, name string) command.Command {
	return command.Command{Kind: command.Do, B: b, Op: object.Op{Kind: object.Ledger, Ledger: ledger.Op{Kind: ledger.Open, Name: name}}}
}

func move(b int, from, to string, amount int) command.Command {
	return command.Command{Kind: command.Do, B: b, Op: object.Op{Kind: object.Ledger, Ledger: ledger.Op{Kind: ledger.Move, Name: from, To: to, Amount: amount}}}
}

func add(b int, name string, n int) command.Command {
	return command.Command{Kind: command.Do, B: b, Op: object.Op{Kind: object.Stock, Stock: stock.Op{Kind: stock.Add, Name: name, N: n}}}
}

func take(b int, name string, n int) command.Command {
	return command.Command{Kind: command.Do, B: b, Op: object.Op{Kind: object.Stock, Stock: stock.Op{Kind: stock.Take, Name: name, N: n}}}
}

func undo(b, n int) command.Command {
	return command.Command{Kind: command.Undo, B: b, N: n}
}

func fork(b, n int) command.Command {
	return command.Command{Kind: command.Fork, B: b, N: n}
}

func forward(b, a int) command.Command {
	return command.Command{Kind: command.Forward, B: b, A: a}
}

func retain(b, n int) command.Command {
	return command.Command{Kind: command.Retain, B: b, N: n}
}

// isFault looks whether an error is the fault of a number, in a step, at a place.
func isFault(t *testing.T, name string, err error, step string, at int, want api.Errno) {
	t.Helper()
	var f *fault.Fault
	if !errors.As(err, &f) || error(f) != err || *f != (fault.Fault{Step: step, At: at, Err: want}) {
		t.Fatalf("%s: %v, want %s %d: %v", name, err, step, at, want)
	}
}

// start is a new machine, which may be.
func start(t *testing.T, kind int, p proc.Place) *machine.Machine {
	t.Helper()
	m, err := machine.New(kind, p)
	if err != nil || m == nil {
		t.Fatalf("New of %+v: %v", p, err)
	}
	return m
}

// begins lets a process begin, which it can.
func begins(t *testing.T, m *machine.Machine, who int, c command.Command) {
	t.Helper()
	if err := m.Begin(who, c); err != nil {
		t.Fatalf("Begin of %d: %v", who, err)
	}
}

// heads lets a process read the head, likewise.
func heads(t *testing.T, m *machine.Machine, who int) {
	t.Helper()
	if err := m.Head(who); err != nil {
		t.Fatalf("Head of %d: %v", who, err)
	}
}

// steps lets a process make a step, which it can.
func steps(t *testing.T, m *machine.Machine, who int) machine.Event {
	t.Helper()
	x, err := m.Step(who)
	if err != nil {
		t.Fatalf("Step of %d: %v", who, err)
	}
	return x
}

// ends steps a process till it is done: what that came to, and how many steps it took.
func ends(t *testing.T, m *machine.Machine, who int) (machine.Event, int) {
	t.Helper()
	for n := 1; n <= m.Place().Bound(); n++ {
		if x := steps(t, m, who); x != (machine.Event{}) {
			return x, n
		}
	}
	t.Fatalf("%d isn't done within %d steps", who, m.Place().Bound())
	return machine.Event{}, 0
}

// endsSo looks at that.
func endsSo(t *testing.T, m *machine.Machine, who int, want machine.Event, took int) {
	t.Helper()
	if x, n := ends(t, m, who); x != want || n != took {
		t.Fatalf("%d: %+v in %d steps, want %+v in %d", who, x, n, want, took)
	}
}

// does lets processes do commands, one by one, from the first slot on that isn't decided: their answers.
func does(t *testing.T, m *machine.Machine, who int, l ...command.Command) []string {
	t.Helper()
	var answers []string
	for _, c := range l {
		begins(t, m, who, c)
		x, _ := ends(t, m, who)
		if x.Kind != machine.Decided || x.Slot != m.Len()-1 {
			t.Fatalf("%+v: %+v, where %d are decided", c, x, m.Len())
		}
		answers = append(answers, x.Answer)
	}
	return answers
}

// lines is all that a table tells.
func lines(x *branch.Table) []string {
	var l []string
	for b := range x.Len() {
		line, _ := x.Line(b)
		head, _ := line.Head(line.Len())
		l = append(l, strconv.Itoa(line.Kind())+" "+strconv.Itoa(line.Len())+" "+strconv.Itoa(line.Floor())+" "+string(head.Root[:]))
		for v := line.Floor(); v <= line.Len(); v++ {
			s, _ := line.AsOf(v)
			by, was := line.Undone(v)
			l = append(l, s, strconv.Itoa(by)+strconv.FormatBool(was))
		}
	}
	return l
}

// told is all that a machine tells.
func told(m *machine.Machine) []string {
	l := []string{strconv.Itoa(m.Len()), strconv.FormatBool(m.Full()), m.Answer(m.Len())}
	for k := range m.Len() {
		r, _ := m.At(k)
		l = append(l, r.Text(), m.Answer(k))
	}
	for _, who := range m.Busy() {
		l = append(l, "busy "+strconv.Itoa(who))
	}
	for who := range m.Place().Procs {
		l = append(l, strconv.Itoa(m.Accesses(who))+strconv.FormatBool(m.Idle(who)))
	}
	return append(l, lines(m.Table())...)
}

// busy looks whether just these processes aren't idle.
func busy(t *testing.T, m *machine.Machine, want ...int) {
	t.Helper()
	if l := m.Busy(); !slices.Equal(l, want) {
		t.Fatalf("Busy: %v, want %v", l, want)
	}
	for who := range m.Place().Procs {
		if m.Idle(who) == slices.Contains(want, who) {
			t.Fatalf("Idle of %d: %v, want of %v alone", who, m.Idle(who), want)
		}
	}
}

// saves looks at the bytes of a line's object.
func saves(t *testing.T, m *machine.Machine, b int, want string) {
	t.Helper()
	l, err := m.Table().Line(b)
	if err != nil || l.Save() != want {
		t.Fatalf("line %d: %q, %v, want %q", b, l.Save(), err, want)
	}
}

// P23.1: the chapter's example, and the kinds of events.
func TestExample(t *testing.T) {
	if machine.None != 0 || machine.Decided != 1 || machine.Full != 2 || machine.Headed != 3 {
		t.Error("the kinds of events")
	}
	m := start(t, object.Text, proc.Place{Procs: 1, Slots: 1})
	begins(t, m, 0, insert(0, 0, "a"))
	endsSo(t, m, 0, machine.Event{Kind: machine.Decided, Slot: 0, Answer: "\x00\x00\x00"}, 4)
}

// P23.1: what a new machine tells: nothing is decided, and nobody has anything to do.
func TestNew(t *testing.T) {
	for _, kind := range kinds {
		for _, p := range []proc.Place{{Procs: 1}, {Procs: 1, Slots: 1}, {Procs: 3, Slots: 2}, {Procs: 64}, {Procs: 64, Slots: 256}} {
			m := start(t, kind, p)
			busy(t, m)
			if m.Place() != p || m.Len() != 0 || m.Full() != (p.Slots == 0) || m.Answer(0) != "" {
				t.Errorf("of %+v: Place %+v, Len %d, Full %v", p, m.Place(), m.Len(), m.Full())
			}
			if !slices.Equal(lines(m.Table()), lines(branch.New(kind))) {
				t.Errorf("of %+v: the table %q", p, lines(m.Table()))
			}
			for who := range p.Procs {
				if m.Accesses(who) != 0 {
					t.Errorf("of %+v: %d accesses", p, m.Accesses(who))
				}
				if x := steps(t, m, who); x != (machine.Event{}) {
					t.Errorf("of %+v: Step: %+v", p, x)
				}
			}
		}
	}
}

// P23.1, K2: what machines may not be: first the place, then the kind.
func TestNewErrors(t *testing.T) {
	for _, x := range []struct {
		kind int
		p    proc.Place
		at   int
		e    api.Errno
	}{
		{object.Text, proc.Place{}, 0, api.ErrArg},
		{object.Text, proc.Place{Slots: 5}, 0, api.ErrArg},
		{object.Ledger, proc.Place{Procs: 65, Slots: 1}, 65, api.ErrArg},
		{object.Ledger, proc.Place{Procs: -1, Slots: 1}, -1, api.ErrArg},
		{object.Stock, proc.Place{Procs: 2, Slots: -1}, 2, api.ErrArg},
		{object.Stock, proc.Place{Procs: 7, Slots: 257}, 7, api.ErrArg},
		{object.Text, proc.Place{Procs: math.MaxInt, Slots: math.MaxInt}, math.MaxInt, api.ErrArg},
		{object.Text, proc.Place{Procs: math.MinInt, Slots: math.MinInt}, math.MinInt, api.ErrArg},
		{0, proc.Place{Procs: 3, Slots: 257}, 3, api.ErrArg},
		{math.MinInt, proc.Place{}, 0, api.ErrArg},
		{0, proc.Place{Procs: 3, Slots: 2}, 0, api.ErrKind},
		{4, proc.Place{Procs: 1}, 4, api.ErrKind},
		{-1, proc.Place{Procs: 64, Slots: 256}, -1, api.ErrKind},
		{math.MaxInt, proc.Place{Procs: 1, Slots: 1}, math.MaxInt, api.ErrKind},
		{math.MinInt, proc.Place{Procs: 1, Slots: 1}, math.MinInt, api.ErrKind},
	} {
		m, err := machine.New(x.kind, x.p)
		isFault(t, "New", err, "machine", x.at, x.e)
		if m != nil {
			t.Errorf("New of %d, %+v: not nil beside %v", x.kind, x.p, err)
		}
	}
}

// P23.1, K2: what is no process can't do anything; it is idle, and made no access. That is said ahead of all else.
func TestNoProcess(t *testing.T) {
	m := start(t, object.Text, proc.Place{Procs: 3, Slots: 4})
	begins(t, m, 1, insert(0, 0, "a"))
	for range 3 {
		was := told(m)
		for _, who := range append([]int{3, 4, 63, 64}, edges...) {
			isFault(t, "Begin", m.Begin(who, insert(0, 0, "b")), "process", who, api.ErrRange)
			isFault(t, "Begin", m.Begin(who, command.Command{}), "process", who, api.ErrRange)
			isFault(t, "Head", m.Head(who), "process", who, api.ErrRange)
			x, err := m.Step(who)
			isFault(t, "Step", err, "process", who, api.ErrRange)
			if x != (machine.Event{}) || !m.Idle(who) || m.Accesses(who) != 0 {
				t.Errorf("%d: %+v, Idle %v, %d accesses", who, x, m.Idle(who), m.Accesses(who))
			}
		}
		if !slices.Equal(told(m), was) {
			t.Errorf("%q, then %q", was, told(m))
		}
		steps(t, m, 1)
	}
}

// refuses looks whether no process can begin what may not be, nor those that are busy anything; nothing changes.
func refuses(t *testing.T, m *machine.Machine, wrong []command.Command) {
	t.Helper()
	was := told(m)
	for _, c := range wrong {
		if c.Check() == api.OK {
			t.Fatalf("%+v may be", c)
		}
		for who := range m.Place().Procs {
			isFault(t, "Begin", m.Begin(who, c), "begin", who, c.Check())
		}
	}
	for _, who := range m.Busy() {
		for _, c := range []command.Command{add(0, "bolt", 1), insert(0, 0, "a"), undo(0, 0)} {
			isFault(t, "Begin", m.Begin(who, c), "begin", who, api.ErrBusy)
		}
	}
	if !slices.Equal(told(m), was) {
		t.Fatalf("%q, then %q", was, told(m))
	}
}

// P23.1, K2: what may not begin: first Check's error, then that the process isn't idle; nothing changes, also of what it does.
func TestBeginErrors(t *testing.T) {
	m := start(t, object.Stock, proc.Place{Procs: 2, Slots: 4})
	wrong := []command.Command{
		{}, {Kind: 6}, {Kind: -1, B: -1}, undo(-1, 0), fork(0, 1<<20+1), {Kind: command.Forward, N: 1}, {Kind: command.Undo, Op: add(0, "nut", 1).Op}, {Kind: command.Do},
		add(0, "", 1), add(0, "nut", 0), take(0, "thirteenbytes", 1), insert(0, 0, ""), insert(0, 201, "a"), cut(0, 0, 41), move(0, "a", "a", 1), open(0, ""),
	}
	refuses(t, m, wrong)
	for k := range 2 {
		begins(t, m, 1, add(0, "nut", 1))
		for range 3 {
			refuses(t, m, wrong)
			if x := steps(t, m, 1); x != (machine.Event{}) {
				t.Fatalf("Step: %+v", x)
			}
		}
		endsSo(t, m, 1, machine.Event{Kind: machine.Decided, Slot: k, Answer: "\x00" + string(rune(k)) + "\x00"}, 1)
		refuses(t, m, wrong)
	}
	saves(t, m, 0, "\x01\x03nut\x02")
}

// P23.1: a process that isn't idle can't read the head, and one that reads it can't begin; another one can.
func TestHeadErrors(t *testing.T) {
	m := start(t, object.Text, proc.Place{Procs: 2, Slots: 4})
	begins(t, m, 0, insert(0, 0, "a"))
	heads(t, m, 1)
	was := told(m)
	busy(t, m, 0, 1)
	for who := range 2 {
		isFault(t, "Head", m.Head(who), "head", who, api.ErrBusy)
		isFault(t, "Begin", m.Begin(who, insert(0, 0, "b")), "begin", who, api.ErrBusy)
		isFault(t, "Begin", m.Begin(who, command.Command{}), "begin", who, api.ErrKind)
	}
	if !slices.Equal(told(m), was) {
		t.Errorf("%q, then %q", was, told(m))
	}
	endsSo(t, m, 1, machine.Event{Kind: machine.Headed}, 1)
	busy(t, m, 0)
	heads(t, m, 1)
	endsSo(t, m, 0, machine.Event{Kind: machine.Decided, Answer: "\x00\x00\x00"}, 4)
	busy(t, m, 1)
	endsSo(t, m, 1, machine.Event{Kind: machine.Headed, Slot: 1}, 2)
	busy(t, m)
}

// P23.1: each step is an access of its process alone; one of an idle process is none.
func TestAccesses(t *testing.T) {
	m := start(t, object.Text, proc.Place{Procs: 3, Slots: 2})
	made := make([]int, 3)
	turn := func(who int) {
		t.Helper()
		if !m.Idle(who) {
			made[who]++
		}
		steps(t, m, who)
		for k, n := range made {
			if m.Accesses(k) != n {
				t.Fatalf("%d accesses of %d, want %d", m.Accesses(k), k, n)
			}
		}
	}
	begins(t, m, 0, insert(0, 0, "a"))
	heads(t, m, 2)
	for range 12 {
		turn(2)
		turn(0)
		turn(1)
		turn(0)
	}
	begins(t, m, 1, cut(0, 0, 1))
	for range 12 {
		turn(1)
	}
	if !slices.Equal(made, []int{4, 5, 1}) {
		t.Errorf("accesses: %v", made)
	}
}

// P23.1: how many slots are decided, read slot by slot, also of a log that is full, or has none.
func TestHead(t *testing.T) {
	for slots := range 5 {
		for decided := range slots + 1 {
			m := start(t, object.Stock, proc.Place{Procs: 3, Slots: slots})
			for k := range decided {
				does(t, m, k%2, add(0, "nut", 1))
			}
			heads(t, m, 2)
			endsSo(t, m, 2, machine.Event{Kind: machine.Headed, Slot: decided}, decided+1)
			heads(t, m, 2)
			endsSo(t, m, 2, machine.Event{Kind: machine.Headed, Slot: decided}, 1)
			if m.Len() != decided || m.Full() != (decided == slots) {
				t.Errorf("%d of %d: Len %d, Full %v", decided, slots, m.Len(), m.Full())
			}
		}
	}
}

// P23.1: what is decided while a process reads the head counts, as far as it gets to see it.
func TestHeadGoesOn(t *testing.T) {
	m := start(t, object.Stock, proc.Place{Procs: 2, Slots: 3})
	does(t, m, 0, add(0, "nut", 1))
	heads(t, m, 1)
	steps(t, m, 1)
	does(t, m, 0, add(0, "nut", 1))
	steps(t, m, 1)
	does(t, m, 0, add(0, "nut", 1))
	steps(t, m, 1)
	endsSo(t, m, 1, machine.Event{Kind: machine.Headed, Slot: 3}, 1)
}

// P23.1: an end that is of a head isn't taken for one of a command, nor the other way round, whatever came ahead of it.
func TestEventKinds(t *testing.T) {
	m := start(t, object.Text, proc.Place{Procs: 1, Slots: 3})
	for k := range 3 {
		heads(t, m, 0)
		if x, _ := ends(t, m, 0); x != (machine.Event{Kind: machine.Headed, Slot: k}) {
			t.Errorf("the head behind %d: %+v", k, x)
		}
		begins(t, m, 0, insert(0, 0, "a"))
		if x, _ := ends(t, m, 0); x != (machine.Event{Kind: machine.Decided, Slot: k, Answer: "\x00" + string(rune(k)) + "\x00"}) {
			t.Errorf("command %d: %+v", k, x)
		}
	}
	begins(t, m, 0, insert(0, 0, "a"))
	endsSo(t, m, 0, machine.Event{Kind: machine.Full}, 1)
	heads(t, m, 0)
	endsSo(t, m, 0, machine.Event{Kind: machine.Headed, Slot: 3}, 1)
}

// P23.1, P23.2: commands of all kinds are done on the table, and answered with its bytes, also with errors; those are decided all the same.
func TestAnswers(t *testing.T) {
	m := start(t, object.Text, proc.Place{Procs: 2, Slots: 12})
	got := does(t, m, 0,
		insert(0, 0, "abcd"), cut(0, 1, 2), fork(0, 1), insert(1, 4, "e"), undo(0, 1), forward(0, 1), cut(0, 4, 1),
		undo(0, 1), undo(0, 3), retain(1, 2), fork(1, 0), add(7, "nut", 1))
	want := []string{
		"\x00\x00\x00", "\x00\x01\x02bc", "\x00\x01\x00", "\x00\x01\x00", "\x00\x02\x00", "\x13\x00\x00", "\x06\x00\x00",
		"\x10\x00\x00", "\x0d\x00\x00", "\x00\x02\x00", "\x0e\x00\x00", "\x0f\x00\x00",
	}
	if !slices.Equal(got, want) {
		t.Errorf("answers: %q, want %q", got, want)
	}
	for k, s := range want {
		if m.Answer(k) != s {
			t.Errorf("Answer(%d): %q, want %q", k, m.Answer(k), s)
		}
	}
	for _, k := range append([]int{12, 13}, edges...) {
		if s := m.Answer(k); s != "" {
			t.Errorf("Answer(%d): %q", k, s)
		}
	}
	saves(t, m, 0, "\x04abcd")
	saves(t, m, 1, "\x05abcde")
}

// P23.1: each kind of object.
func TestKinds(t *testing.T) {
	p := proc.Place{Procs: 1, Slots: 4}
	m := start(t, object.Ledger, p)
	got := does(t, m, 0, open(0, "a"), move(0, "", "a", 5), move(0, "a", "b", 5), insert(0, 0, "a"))
	if !slices.Equal(got, []string{"\x00\x00\x00", "\x00\x01\x00", "\x08\x00\x00", "\x05\x00\x00"}) {
		t.Errorf("of a ledger: %q", got)
	}
	saves(t, m, 0, "\x01\x01a\x05")
	m = start(t, object.Stock, p)
	got = does(t, m, 0, add(0, "nut", 5), add(0, "bolt", 1), undo(0, 0), take(0, "nut", 1))
	if !slices.Equal(got, []string{"\x00\x00\x00", "\x00\x01\x00", "\x00\x02\x00", "\x08\x00\x00"}) {
		t.Errorf("of a shelf: %q", got)
	}
	saves(t, m, 0, "\x01\x04bolt\x01")
}

// P23.1: the greatest commands that may be.
func TestGreatest(t *testing.T) {
	m := start(t, object.Text, proc.Place{Procs: 1, Slots: 8})
	for k := range 5 {
		begins(t, m, 0, insert(0, 40*k, strings.Repeat("\xff", 40)))
		ends(t, m, 0)
	}
	got := does(t, m, 0, insert(0, 200, "a"), cut(0, 160, 40), insert(1<<20, 200, strings.Repeat("a", 40)))
	if !slices.Equal(got, []string{"\x07\x00\x00", "\x00\x05\x28" + strings.Repeat("\xff", 40), "\x0f\x00\x00"}) {
		t.Errorf("%q", got)
	}
}

// P23.1: the calls of the machine's view are its own: which record is in which slot.
func TestView(t *testing.T) {
	m := start(t, object.Stock, proc.Place{Procs: 3, Slots: 5})
	does(t, m, 2, add(0, "nut", 1))
	does(t, m, 0, add(0, "nut", 2))
	does(t, m, 2, add(0, "nut", 3))
	for k, want := range []proc.Record{{Who: 2, Seq: 1, Body: add(0, "nut", 1).Text()}, {Who: 0, Seq: 1, Body: add(0, "nut", 2).Text()}, {Who: 2, Seq: 2, Body: add(0, "nut", 3).Text()}} {
		if r, err := m.At(k); r != want || err != nil {
			t.Errorf("At(%d): %+v, %v, want %+v", k, r, err, want)
		}
	}
	_, err := m.At(3)
	isFault(t, "At", err, "slot", 3, api.ErrFuture)
	if m.Len() != 3 || m.Full() || m.Last(2) != 2 || m.Last(1) != 0 || m.Find(2, 2) != 2 || m.Find(1, 1) != -1 || !slices.Equal(m.Of(2), []int{0, 2}) {
		t.Errorf("Len %d, Last %d, %d, Find %d, %d, Of %v", m.Len(), m.Last(2), m.Last(1), m.Find(2, 2), m.Find(1, 1), m.Of(2))
	}
	// In another memory of that place, where nothing is decided, there is nothing more to be seen.
	if l, err := m.Look(cells.New(m.Place().Cells())); len(l) != 0 || err != nil || m.Len() != 3 {
		t.Errorf("Look: %+v, %v", l, err)
	}
	does(t, m, 1, add(0, "nut", 4))
	if r, err := m.At(3); r.Who != 1 || err != nil || m.Answer(3) != "\x00\x03\x00" {
		t.Errorf("At(3): %+v, %v, answer %q", r, err, m.Answer(3))
	}
}

// P23.1: the table goes on with the step that decides a slot, no sooner and no later, whoever's command that is.
func TestTableGoesOn(t *testing.T) {
	m := start(t, object.Text, proc.Place{Procs: 2, Slots: 4})
	table := m.Table()
	l, _ := table.Line(0)
	for k := range 4 {
		begins(t, m, 0, insert(0, k, "a"))
		for i := range 4 {
			if l.Len() != k || m.Len() != k || m.Answer(k) != "" {
				t.Fatalf("%d decided behind %d steps: Len %d, Answer %q", k, i, m.Len(), m.Answer(k))
			}
			steps(t, m, 0)
		}
		if l.Len() != k+1 || m.Len() != k+1 || m.Answer(k) == "" || l.Save() != string(rune(k+1))+"aaaa"[:k+1] {
			t.Fatalf("%d decided: %q, Len %d, Answer %q", k+1, l.Save(), m.Len(), m.Answer(k))
		}
	}
	if m.Table() != table {
		t.Error("another table")
	}
}

// P23.2: a process says its wish and never steps again: others decide it, and its answer is there; when it steps at last, it is told.
func TestHelped(t *testing.T) {
	m := start(t, object.Stock, proc.Place{Procs: 3, Slots: 6})
	begins(t, m, 1, add(0, "nut", 7))
	steps(t, m, 1)
	if got := does(t, m, 0, take(0, "nut", 7)); !slices.Equal(got, []string{"\x08\x00\x00"}) {
		t.Fatalf("slot 0: %q", got)
	}
	begins(t, m, 0, take(0, "nut", 7))
	endsSo(t, m, 0, machine.Event{Kind: machine.Decided, Slot: 2, Answer: "\x00\x01\x00"}, 7)
	if r, _ := m.At(1); r.Who != 1 || m.Answer(1) != "\x00\x00\x00" || m.Accesses(1) != 1 {
		t.Fatalf("slot 1: %+v, %q, %d accesses", r, m.Answer(1), m.Accesses(1))
	}
	busy(t, m, 1)
	was := told(m)
	isFault(t, "Begin", m.Begin(1, add(0, "bolt", 1)), "begin", 1, api.ErrBusy)
	endsSo(t, m, 1, machine.Event{Kind: machine.Decided, Slot: 1, Answer: "\x00\x00\x00"}, 2)
	busy(t, m)
	if !slices.Equal(lines(m.Table()), was[len(was)-len(lines(m.Table())):]) || m.Len() != 3 {
		t.Errorf("%q, then %q", was, told(m))
	}
}

// P23.4: two processes, one slot: one is decided, the other one is told that the log is full; its command has changed nothing, and never will.
func TestFull(t *testing.T) {
	for first := range 2 {
		m := start(t, object.Text, proc.Place{Procs: 2, Slots: 1})
		begins(t, m, 0, insert(0, 0, "a"))
		begins(t, m, 1, insert(0, 0, "b"))
		// The slot helps process 0, if that has said its wish.
		if x, _ := ends(t, m, first); x != (machine.Event{Kind: machine.Decided, Answer: "\x00\x00\x00"}) {
			t.Fatalf("%d: %+v", first, x)
		}
		was := lines(m.Table())
		if x, _ := ends(t, m, 1-first); x != (machine.Event{Kind: machine.Full}) {
			t.Fatalf("%d: %+v", 1-first, x)
		}
		for range 3 {
			for who := range 2 {
				begins(t, m, who, insert(0, 0, "c"))
				endsSo(t, m, who, machine.Event{Kind: machine.Full}, 1)
				heads(t, m, who)
				endsSo(t, m, who, machine.Event{Kind: machine.Headed, Slot: 1}, 1)
			}
		}
		saves(t, m, 0, "\x01"+"ab"[first:first+1])
		if !slices.Equal(lines(m.Table()), was) || m.Len() != 1 || !m.Full() || m.Answer(1) != "" || m.Find(1-first, 1) != -1 {
			t.Errorf("behind Full: %q, %d decided", lines(m.Table()), m.Len())
		}
	}
}

// P23.4: of no slots the log is full at once: within the Bound of 2.
func TestNoSlots(t *testing.T) {
	m := start(t, object.Stock, proc.Place{Procs: 2})
	for range 3 {
		begins(t, m, 1, add(0, "nut", 1))
		busy(t, m, 1)
		endsSo(t, m, 1, machine.Event{Kind: machine.Full}, 1)
		heads(t, m, 0)
		endsSo(t, m, 0, machine.Event{Kind: machine.Headed}, 1)
		busy(t, m)
	}
	saves(t, m, 0, "\x00")
	if m.Len() != 0 || !m.Full() || m.Answer(0) != "" {
		t.Errorf("Len %d", m.Len())
	}
}

// P23.1: as many processes as there may be; those that aren't idle, rising, in whatever order they began and ended.
func TestBusy(t *testing.T) {
	m := start(t, object.Stock, proc.Place{Procs: 64, Slots: 256})
	var want []int
	for i := range 64 {
		who := i * 37 % 64
		if i%2 == 0 {
			begins(t, m, who, add(0, "nut", 1))
		} else {
			heads(t, m, who)
		}
		want = append(want, who)
		slices.Sort(want)
		busy(t, m, want...)
	}
	for i := range 64 {
		who := i * 11 % 64
		ends(t, m, who)
		want = slices.DeleteFunc(want, func(x int) bool { return x == who })
		busy(t, m, want...)
	}
	saves(t, m, 0, "\x01\x03nut\x20")
}

// K3: what is answered is new.
func TestSharesNothing(t *testing.T) {
	m := start(t, object.Stock, proc.Place{Procs: 4, Slots: 4})
	heads(t, m, 1)
	begins(t, m, 3, add(0, "nut", 1))
	l := m.Busy()
	l[0], l[1] = 2, 0
	_ = append(l[:1], 7)
	busy(t, m, 1, 3)
	ends(t, m, 1)
	if !slices.Equal(l, []int{2, 7}) {
		t.Errorf("an answer has changed: %v", l)
	}
}

// P23.1: each machine has a memory and a table of its own.
func TestNewIsItsOwn(t *testing.T) {
	p := proc.Place{Procs: 2, Slots: 3}
	m, other := start(t, object.Text, p), start(t, object.Text, p)
	begins(t, other, 0, insert(0, 0, "other"))
	steps(t, other, 0)
	was := told(other)
	does(t, m, 0, insert(0, 0, "a"), fork(0, 1), retain(0, 1))
	heads(t, m, 1)
	if !slices.Equal(told(other), was) {
		t.Errorf("%q, then %q", was, told(other))
	}
	endsSo(t, other, 0, machine.Event{Kind: machine.Decided, Answer: "\x00\x00\x00"}, 3)
	saves(t, m, 0, "\x01a")
	saves(t, other, 0, "\x05other")
}

// P1, K7: no call panics, whatever numbers come.
func TestNoPanic(t *testing.T) {
	numbers := append([]int{0, 1, 2, 3, 4, 5, 6}, edges...)
	for _, n := range numbers {
		for _, i := range numbers {
			m, err := machine.New(n, proc.Place{Procs: i, Slots: n})
			if err != nil {
				m = start(t, object.Text, proc.Place{Procs: 2, Slots: 2})
			}
			op := add(0, "nut", i).Op
			op.Kind = n
			for _, c := range []command.Command{{}, {Kind: n, B: i, A: i, N: i}, {Kind: command.Do, Op: op}, undo(0, n), fork(n, i), forward(n, i), retain(0, i), insert(0, n, "a")} {
				m.Begin(i, c)
				m.Begin(0, c)
				m.Head(n)
				m.Step(n)
				m.Step(i)
				m.Step(0)
			}
			m.Accesses(n)
			m.Answer(n)
			m.Busy()
			if m.Idle(n) == slices.Contains(m.Busy(), n) {
				t.Errorf("Idle of %d: %v", n, m.Idle(n))
			}
		}
	}
}
