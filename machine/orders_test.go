package machine_test

import (
	"math/rand"
	"slices"
	"strconv"
	"testing"

	"hindsight/api"
	"hindsight/branch"
	"hindsight/cells"
	"hindsight/command"
	"hindsight/fault"
	"hindsight/machine"
	"hindsight/object"
	"hindsight/proc"
)

// head stands in a process's list for reading the head.
var head = command.Command{}

// call is what a process began, and what that came to.
type call struct {
	who, seq  int
	c         command.Command
	from, to  int // the steps of all processes ahead of its first one, and behind its last one
	took      int // its own ones
	end       machine.Event
	decidedTo int // how many slots were decided when it ended
}

// run is a machine, what each of its processes has to do yet, and what was done.
type run struct {
	m     *machine.Machine
	plans [][]command.Command
	open  map[int]*call
	seqs  []int
	all   []*call
	clock int
}

func newRun(t *testing.T, kind, slots int, plans ...[]command.Command) *run {
	t.Helper()
	return &run{m: start(t, kind, proc.Place{Procs: len(plans), Slots: slots}), plans: slices.Clone(plans), open: map[int]*call{}, seqs: make([]int, len(plans))}
}

// able are the processes that have something to do, or to begin.
func (x *run) able() []int {
	var l []int
	for who := range x.plans {
		if x.open[who] != nil || len(x.plans[who]) > 0 {
			l = append(l, who)
		}
	}
	return l
}

// pick lets one of these begin, if it is idle, and make a step.
func (x *run) pick(t *testing.T, who int) {
	t.Helper()
	if x.open[who] == nil {
		x.begin(t, who)
	}
	at := x.open[who]
	at.took++
	at.end = steps(t, x.m, who)
	x.clock++
	if at.end.Kind == machine.None {
		if at.took >= x.m.Place().Bound() {
			t.Fatalf("%+v isn't done within %d steps", at, at.took)
		}
		return
	}
	at.to, at.decidedTo = x.clock, x.m.Len()
	delete(x.open, who)
}

func (x *run) begin(t *testing.T, who int) {
	t.Helper()
	at := &call{who: who, c: x.plans[who][0], from: x.clock}
	x.plans[who] = x.plans[who][1:]
	if at.c == head {
		heads(t, x.m, who)
	} else {
		begins(t, x.m, who, at.c)
		x.seqs[who]++
		at.seq = x.seqs[who]
	}
	x.open[who] = at
	x.all = append(x.all, at)
}

// looksRight holds all that was answered against one table that is given the decided commands, one behind the other.
func (x *run) looksRight(t *testing.T) {
	t.Helper()
	l, _ := x.m.Table().Line(0)
	one := branch.New(l.Kind())
	for k := range x.m.Len() {
		r, _ := x.m.At(k)
		c, err := command.Parse(r.Body)
		if err != nil {
			t.Fatalf("slot %d: %v", k, err)
		}
		if want := command.Apply(one, c).Text(); x.m.Answer(k) != want {
			t.Fatalf("Answer(%d): %q, want %q", k, x.m.Answer(k), want)
		}
	}
	if !slices.Equal(lines(one), lines(x.m.Table())) {
		t.Fatalf("one table: %q, the machine's: %q", lines(one), lines(x.m.Table()))
	}
	for _, at := range x.all {
		x.callLooksRight(t, at)
	}
	for _, before := range x.all {
		for _, behind := range x.all {
			if before.end.Kind == machine.Decided && behind.end.Kind == machine.Decided && before.to <= behind.from && before.end.Slot >= behind.end.Slot {
				t.Fatalf("%+v ended ahead of %+v", before, behind)
			}
		}
	}
}

// callLooksRight is what of that is one call's.
func (x *run) callLooksRight(t *testing.T, at *call) {
	t.Helper()
	slot := x.m.Find(at.who, at.seq)
	switch at.end.Kind {
	case machine.Decided:
		r, err := x.m.At(at.end.Slot)
		if err != nil || at.c == head || slot != at.end.Slot || r != (proc.Record{Who: at.who, Seq: at.seq, Body: at.c.Text()}) || at.end.Answer != x.m.Answer(slot) {
			t.Fatalf("%+v: %+v is in slot %d, answered %q", at, r, slot, x.m.Answer(slot))
		}
	case machine.Full:
		if at.c == head || slot != -1 || at.decidedTo != x.m.Place().Slots || at.end != (machine.Event{Kind: machine.Full}) {
			t.Fatalf("%+v: it is in slot %d", at, slot)
		}
	case machine.Headed:
		if at.c != head || at.end != (machine.Event{Kind: machine.Headed, Slot: at.decidedTo}) {
			t.Fatalf("%+v", at)
		}
	}
}

// everyOrder runs each order of steps, till all is done: how many there are.
func everyOrder(t *testing.T, kind, slots int, plans ...[]command.Command) int {
	t.Helper()
	var choices, of []int
	for n := 1; ; n++ {
		x := newRun(t, kind, slots, plans...)
		for depth := 0; ; depth++ {
			able := x.able()
			if len(able) == 0 {
				break
			}
			if depth == len(choices) {
				choices, of = append(choices, 0), append(of, len(able))
			}
			x.pick(t, able[choices[depth]])
		}
		x.looksRight(t)
		for len(choices) > 0 && choices[len(choices)-1]+1 == of[len(of)-1] {
			choices, of = choices[:len(choices)-1], of[:len(of)-1]
		}
		if len(choices) == 0 {
			return n
		}
		choices[len(choices)-1]++
	}
}

// P23.2, P23.3, P23.4: in every order of steps of few processes.
func TestEveryOrder(t *testing.T) {
	for i, x := range []struct {
		kind, slots int
		plans       [][]command.Command
	}{
		{object.Stock, 2, [][]command.Command{{add(0, "nut", 1)}, {take(0, "nut", 1)}}},
		{object.Text, 1, [][]command.Command{{insert(0, 0, "ab")}, {cut(0, 0, 1)}}},
		{object.Text, 2, [][]command.Command{{insert(0, 0, "ab"), head}, {head, undo(0, 0)}}},
		{object.Text, 1, [][]command.Command{{insert(0, 0, "a")}, {head, head}, {insert(0, 0, "b")}}},
		{object.Ledger, 0, [][]command.Command{{open(0, "a"), head}, {head}, {move(0, "", "a", 1), head}}},
	} {
		if n := everyOrder(t, x.kind, x.slots, x.plans...); n < 30 {
			t.Errorf("%d: only %d orders", i, n)
		}
	}
}

// P23.2, P23.3, P23.4: in every order of more steps.
func TestEveryOrderOfMore(t *testing.T) {
	if testing.Short() {
		t.Skip("takes seconds")
	}
	everyOrder(t, object.Stock, 3, []command.Command{add(0, "nut", 1), fork(0, 1)}, []command.Command{undo(0, 0), head})
	everyOrder(t, object.Text, 1, []command.Command{insert(0, 0, "a")}, []command.Command{insert(0, 0, "b")}, []command.Command{cut(0, 0, 1)})
}

// some is a command that may be, of lines and commands that may be there.
func some(r *rand.Rand, kind int) command.Command {
	b, n := r.Intn(3)*r.Intn(2), r.Intn(9)
	switch r.Intn(9) {
	case 0:
		return undo(b, n)
	case 1:
		return fork(b, n)
	case 2:
		return forward(b, r.Intn(3))
	case 3:
		return retain(b, n/3)
	}
	name := []string{"nut", "bolt", "pin"}[r.Intn(3)]
	switch kind {
	case object.Text:
		if r.Intn(3) > 0 {
			return insert(b, r.Intn(6), name)
		}
		return cut(b, r.Intn(6), 1+r.Intn(4))
	case object.Ledger:
		if r.Intn(3) == 0 {
			return open(b, name)
		}
		if r.Intn(3) == 0 {
			return move(b, name, "", 1+r.Intn(9))
		}
		return move(b, "", name, 1+r.Intn(9))
	}
	if r.Intn(3) > 0 {
		return add(b, name, 1+r.Intn(9))
	}
	return take(b, name, 1+r.Intn(9))
}

// P23.2, P23.3, P23.4: many processes and slots, some of which stand still for a while, or for ever.
func TestAnyOrder(t *testing.T) {
	r := rand.New(rand.NewSource(23))
	ended := map[int]int{}
	for round := range 300 {
		kind := kinds[round%3]
		plans := make([][]command.Command, 1+r.Intn(6))
		for who := range plans {
			for range r.Intn(8) {
				c := some(r, kind)
				if r.Intn(4) == 0 {
					c = head
				}
				plans[who] = append(plans[who], c)
			}
		}
		x := newRun(t, kind, r.Intn(20), plans...)
		for awake := r.Perm(len(plans)); ; {
			if r.Intn(40) == 0 {
				awake = r.Perm(len(plans))[:1+r.Intn(len(plans))]
			}
			able := x.able()
			if len(able) == 0 || r.Intn(400) == 0 {
				break
			}
			if who := awake[r.Intn(len(awake))]; slices.Contains(able, who) {
				x.pick(t, who)
			}
		}
		x.looksRight(t)
		for _, at := range x.all {
			ended[at.end.Kind]++
		}
	}
	for kind := machine.None; kind <= machine.Headed; kind++ {
		if ended[kind] < 100 {
			t.Errorf("only %d ended so: %d", ended[kind], kind)
		}
	}
}

// P23.3: as many processes and slots as there may be; each is picked now and then, the first ones more often.
func TestGreatestPlace(t *testing.T) {
	r := rand.New(rand.NewSource(64256))
	plans := make([][]command.Command, api.MaxProcs)
	for who := range plans {
		for range 1 + 8/(who+1) {
			plans[who] = append(plans[who], some(r, object.Stock), some(r, object.Stock), head)
		}
		for len(plans[who]) < 12 {
			plans[who] = append(plans[who], some(r, object.Stock))
		}
	}
	x := newRun(t, object.Stock, api.MaxLog, plans...)
	for able := x.able(); len(able) > 0; able = x.able() {
		x.pick(t, able[r.Intn(1+r.Intn(len(able)))])
	}
	x.looksRight(t)
	if !x.m.Full() || len(x.m.Busy()) != 0 {
		t.Errorf("%d are decided, %v are busy", x.m.Len(), x.m.Busy())
	}
}

// P23.3, P23.4: one that another one overtakes in each slot, till one helps it, is done all the same.
func TestOvertaken(t *testing.T) {
	last := api.MaxProcs - 1 // slot 63 is the first one that helps it
	for _, slots := range []int{0, 1, 5, last, last + 1, 100, api.MaxLog} {
		m := start(t, object.Stock, proc.Place{Procs: last + 1, Slots: slots})
		begins(t, m, last, add(0, "bolt", 1))
		took, end := 0, machine.Event{}
		for end == (machine.Event{}) && took <= m.Place().Bound() {
			if took%3 == 0 && took > 0 { // it is to swap a slot
				decidesNext(t, m, 0)
			}
			end = steps(t, m, last)
			took++
		}
		want := machine.Event{Kind: machine.Full}
		if slots > last {
			want = machine.Event{Kind: machine.Decided, Slot: last, Answer: "\x00\x3f\x00"}
		}
		if end != want || took != 1+3*min(slots, last+1) {
			t.Errorf("of %d slots: %+v in %d steps, want %+v", slots, end, took, want)
		}
	}
}

// decidesNext lets a process go on, till one slot more is decided.
func decidesNext(t *testing.T, m *machine.Machine, who int) {
	t.Helper()
	n := m.Len()
	for range m.Place().Bound() {
		if m.Idle(who) {
			begins(t, m, who, add(0, "nut", 1))
		}
		if steps(t, m, who); m.Len() > n {
			return
		}
	}
	t.Fatalf("%d decides nothing", who)
}

// telling is a second telling of a machine: processes in a memory; all that they come to is worked out anew, out of that memory.
type telling struct {
	kind    int
	p       proc.Place
	memory  *cells.Memory
	procs   []*proc.Proc
	heading []bool
}

func tell(kind int, p proc.Place) *telling {
	x := &telling{kind: kind, p: p, memory: cells.New(p.Cells()), heading: make([]bool, p.Procs)}
	for who := range p.Procs {
		x.procs = append(x.procs, proc.New(p, who))
	}
	return x
}

// table is what the decided commands make, and their answers.
func (x *telling) table() (*branch.Table, []string) {
	t := branch.New(x.kind)
	var answers []string
	for k := range x.p.Slots {
		r, e := proc.Parse(x.memory.Look(x.p.Slot(k)))
		if e != api.OK {
			break
		}
		c, _ := command.Parse(r.Body)
		answers = append(answers, command.Apply(t, c).Text())
	}
	return t, answers
}

func (x *telling) noProcess(who int) error {
	if who < 0 || who >= x.p.Procs {
		return fault.In("process", who, api.ErrRange)
	}
	return nil
}

func (x *telling) begin(who int, c command.Command) error {
	if err := x.noProcess(who); err != nil {
		return err
	}
	if e := c.Check(); e != api.OK {
		return fault.In("begin", who, e)
	}
	if !x.procs[who].Idle() {
		return fault.In("begin", who, api.ErrBusy)
	}
	x.procs[who].Begin(c.Text())
	x.heading[who] = false
	return nil
}

func (x *telling) head(who int) error {
	if err := x.noProcess(who); err != nil {
		return err
	}
	if !x.procs[who].Idle() {
		return fault.In("head", who, api.ErrBusy)
	}
	x.procs[who].Head()
	x.heading[who] = true
	return nil
}

func (x *telling) step(who int) (machine.Event, error) {
	if err := x.noProcess(who); err != nil {
		return machine.Event{}, err
	}
	end := x.procs[who].Step(x.memory)
	_, answers := x.table()
	switch {
	case !end.Done:
		return machine.Event{}, nil
	case x.heading[who]:
		return machine.Event{Kind: machine.Headed, Slot: len(answers)}, nil
	case end.Full:
		return machine.Event{Kind: machine.Full}, nil
	}
	return machine.Event{Kind: machine.Decided, Slot: end.Slot, Answer: answers[end.Slot]}, nil
}

// hasAll holds all that a machine tells against that.
func (x *telling) hasAll(t *testing.T, m *machine.Machine) {
	t.Helper()
	table, answers := x.table()
	if m.Place() != x.p || m.Len() != len(answers) || m.Full() != (len(answers) == x.p.Slots) || !slices.Equal(lines(m.Table()), lines(table)) {
		t.Fatalf("%d decided, %q, want %d, %q", m.Len(), lines(m.Table()), len(answers), lines(table))
	}
	for k, want := range append(answers, "") {
		if m.Answer(k) != want {
			t.Fatalf("Answer(%d): %q, want %q", k, m.Answer(k), want)
		}
	}
	var want []int
	for who, y := range x.procs {
		if !y.Idle() {
			want = append(want, who)
		}
		if m.Accesses(who) != x.memory.Count(who) {
			t.Fatalf("%d accesses of %d, want %d", m.Accesses(who), who, x.memory.Count(who))
		}
	}
	busy(t, m, want...)
}

// same looks whether an error is the one that is wanted: in the same steps, at the same places.
func same(t *testing.T, name string, err, want error) {
	t.Helper()
	if (err == nil) != (want == nil) || want != nil && (err.Error() != want.Error() || fault.Path(err) != fault.Path(want)) {
		t.Fatalf("%s: %v, want %v", name, err, want)
	}
}

// P23.1: behind any calls, against a second telling.
func TestAnyCalls(t *testing.T) {
	r := rand.New(rand.NewSource(231))
	had := map[string]int{}
	for round := range 240 {
		kind := kinds[round%3]
		p := proc.Place{Procs: 1 + r.Intn(5), Slots: r.Intn(14)}
		m, x := start(t, kind, p), tell(kind, p)
		for range 150 {
			who := r.Intn(p.Procs)
			if r.Intn(30) == 0 {
				who = append([]int{p.Procs}, edges...)[r.Intn(1+len(edges))]
			}
			switch r.Intn(8) {
			case 0, 1:
				c := some(r, kinds[(round+r.Intn(9)/8)%3])
				if r.Intn(6) == 0 {
					c.A, c.Kind = r.Intn(3), r.Intn(8)-1
				}
				err := m.Begin(who, c)
				same(t, "Begin", err, x.begin(who, c))
				had["begin "+fault.Path(err)]++
			case 2:
				err := m.Head(who)
				same(t, "Head", err, x.head(who))
				had["head "+fault.Path(err)]++
			default:
				got, err := m.Step(who)
				want, wrong := x.step(who)
				same(t, "Step", err, wrong)
				if got != want {
					t.Fatalf("Step of %d: %+v, want %+v", who, got, want)
				}
				had["step "+fault.Path(err)+strconv.Itoa(got.Kind)]++
			}
			if r.Intn(6) == 0 {
				x.hasAll(t, m)
			}
		}
		x.hasAll(t, m)
	}
	for _, word := range []string{"begin ok", "begin begin/busy", "begin begin/kind", "begin begin/form", "begin process/range", "head ok", "head head/busy", "head process/range", "step ok0", "step ok1", "step ok2", "step ok3", "step process/range0"} {
		if had[word] < 20 {
			t.Errorf("%s only %d times", word, had[word])
		}
	}
}

// K4: the same calls are answered in the same way.
func TestSame(t *testing.T) {
	var first []string
	for i := range 20 {
		r := rand.New(rand.NewSource(5))
		m := start(t, object.Stock, proc.Place{Procs: 9, Slots: 30})
		var l []string
		for range 400 {
			who := r.Intn(9)
			if m.Idle(who) && r.Intn(4) == 0 {
				m.Head(who)
			} else if m.Idle(who) {
				m.Begin(who, some(r, object.Stock))
			}
			x := steps(t, m, who)
			l = append(l, strconv.Itoa(x.Kind)+x.Answer)
		}
		l = append(l, told(m)...)
		if i == 0 {
			first = l
		}
		if !slices.Equal(l, first) {
			t.Fatalf("%q, and then %q", first, l)
		}
	}
}
