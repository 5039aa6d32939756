package engine_test

import (
	"math/rand"
	"slices"
	"strconv"
	"testing"

	"hindsight/api"
	"hindsight/branch"
	"hindsight/command"
	"hindsight/engine"
	"hindsight/fault"
	"hindsight/history"
	"hindsight/machine"
	"hindsight/object"
	"hindsight/proc"
	"hindsight/proof"
	"hindsight/tree"
	"hindsight/wire"
)

// one is a model of one table, asked by one client: its state is the commands that are decided.
type one struct{ kind, slots int }

// table is what these make, and how many they are.
func (o one) table(state string) (*branch.Table, int) {
	x, n := branch.New(o.kind), 0
	for r := wire.Read(state); ; n++ {
		c, err := command.Parse(r.Str(1 << 10))
		if err != nil {
			return x, n
		}
		command.Apply(x, c)
	}
}

func (o one) Next(state, ask string) (string, string) {
	a, err := engine.Parse(ask)
	if err != nil {
		return "not an ask", state
	}
	x, n := o.table(state)
	if a.Kind != engine.Change {
		return read(x, a), state
	}
	if n >= o.slots {
		return engine.Reply(api.ErrFull, ""), state
	}
	answer := command.Apply(x, a.C)
	return engine.Reply(answer.Err, answer.Text()), state + numbered(a.C.Text())
}

// read is what a table answers an ask that reads.
func read(x *branch.Table, a engine.Ask) string {
	l, err := x.Line(a.B)
	if err != nil {
		return engine.Reply(fault.Of(err), "")
	}
	s := ""
	switch a.Kind {
	case engine.AsOf:
		s, err = l.AsOf(a.V)
	case engine.Head:
		var h proof.Head
		h, err = l.Head(l.Len())
		s = string(h.Root[:])
	case engine.Leaf:
		var p proof.Proof
		p, err = l.Leaf(a.V, a.N)
		s = p.Text()
	case engine.Prefix:
		var p proof.Proof
		p, err = l.Prefix(a.V, a.N)
		s = p.Text()
	}
	if err != nil {
		s = ""
	}
	return engine.Reply(fault.Of(err), s)
}

// call is one of the second telling: what a process is at, or was.
type call struct {
	who, seq  int
	a         engine.Ask
	from, to  int
	took      int
	kind      int // the event by which it ended
	decidedTo int // how many slots were decided when it ended
	answer    string
}

// telling is a second telling of an engine: another machine, and lists of what is to be done, and was.
type telling struct {
	m     *machine.Machine
	plans [][]engine.Ask
	open  []*call
	seqs  []int
	calls []*call
	clock int
	most  int
}

func tell(t *testing.T, kind int, p proc.Place) *telling {
	t.Helper()
	m, err := machine.New(kind, p)
	if err != nil {
		t.Fatal(err)
	}
	return &telling{m: m, plans: make([][]engine.Ask, p.Procs), open: make([]*call, p.Procs), seqs: make([]int, p.Procs)}
}

// able are the processes that have something to do, or to begin.
func (x *telling) able() []int {
	var l []int
	for who := range x.plans {
		if x.open[who] != nil || len(x.plans[who]) > 0 {
			l = append(l, who)
		}
	}
	return l
}

func (x *telling) pick(t *testing.T, who int) {
	t.Helper()
	if !slices.Contains(x.able(), who) {
		return
	}
	if x.open[who] == nil {
		x.begin(t, who)
	}
	c := x.open[who]
	end, err := x.m.Step(who)
	if err != nil {
		t.Fatal(err)
	}
	x.clock++
	c.took++
	x.most = max(x.most, c.took)
	if end.Kind == machine.None {
		if c.took >= x.m.Place().Bound() {
			t.Fatalf("%+v isn't done within %d steps", c, c.took)
		}
		return
	}
	c.to, c.kind, c.decidedTo = x.clock-1, end.Kind, x.m.Len()
	switch end.Kind {
	case machine.Decided:
		a, _ := command.ParseAnswer(end.Answer)
		c.answer = engine.Reply(a.Err, end.Answer)
	case machine.Full:
		c.answer = "\x07\x00"
	default:
		c.answer = read(x.m.Table(), c.a)
	}
	x.open[who] = nil
}

func (x *telling) begin(t *testing.T, who int) {
	t.Helper()
	c := &call{who: who, a: x.plans[who][0], from: x.clock, to: -1}
	x.plans[who] = x.plans[who][1:]
	var err error
	if c.a.Kind == engine.Change {
		err = x.m.Begin(who, c.a.C)
		x.seqs[who]++
		c.seq = x.seqs[who]
	} else {
		err = x.m.Head(who)
	}
	if err != nil {
		t.Fatal(err)
	}
	x.open[who] = c
	x.calls = append(x.calls, c)
}

// order is worked out anew, slot by slot, as the chapter says.
func (x *telling) order() []int {
	var l []int
	for k := range x.m.Place().Slots + 1 {
		var others []int
		for i, c := range x.calls {
			if (c.kind == machine.Headed || c.kind == machine.Full) && c.decidedTo == k {
				others = append(others, i)
			}
		}
		slices.SortFunc(others, func(i, j int) int { return x.calls[i].to - x.calls[j].to })
		l = append(l, others...)
		for i, c := range x.calls {
			if r, err := x.m.At(k); err == nil && c.who == r.Who && c.seq == r.Seq {
				l = append(l, i)
			}
		}
	}
	return l
}

// hasAll holds all that an engine tells against that.
func (x *telling) hasAll(t *testing.T, e *engine.Engine) {
	t.Helper()
	l := e.Calls()
	if len(l) != len(x.calls) || e.Most() != x.most || e.Len() != x.m.Len() || !slices.Equal(e.Busy(), x.m.Busy()) {
		t.Fatalf("%d calls, of %d steps at most, %d decided; want %d, %d, %d", len(l), e.Most(), e.Len(), len(x.calls), x.most, x.m.Len())
	}
	for i, c := range x.calls {
		if want := (history.Call{Who: c.who, From: c.from, To: c.to, Ask: c.a.Text(), Answer: c.answer}); l[i] != want {
			t.Fatalf("call %d: %+v, want %+v", i, l[i], want)
		}
	}
	for who := range x.plans {
		if e.Left(who) != len(x.plans[who]) || e.Accesses(who) != x.m.Accesses(who) {
			t.Fatalf("%d left of %d, want %d", e.Left(who), who, len(x.plans[who]))
		}
	}
	orderIs(t, e, x.order()...)
}

// linear holds what an engine answered against one table that answers one call behind the other, and looks that nobody waited.
func linear(t *testing.T, e *engine.Engine) {
	t.Helper()
	l, _ := e.Table().Line(0)
	calls, order := e.Calls(), e.Order()
	if err := history.Replay(one{l.Kind(), e.Place().Slots}, "", calls, order...); err != nil {
		t.Fatalf("%v: %+v in the order %v", err, calls, order)
	}
	if e.Most() > e.Place().Bound() {
		t.Fatalf("%d steps for one call, which are more than %d", e.Most(), e.Place().Bound())
	}
}

// both is an engine, and its second telling.
type both struct {
	e *engine.Engine
	x *telling
}

func startBoth(t *testing.T, kind int, p proc.Place) both {
	t.Helper()
	return both{start(t, kind, p), tell(t, kind, p)}
}

func (b both) want(t *testing.T, who int, l ...engine.Ask) {
	t.Helper()
	wants(t, b.e, who, l...)
	b.x.plans[who] = append(b.x.plans[who], l...)
}

func (b both) pick(t *testing.T, who int) {
	t.Helper()
	if err := b.e.Pick(who); err != nil {
		t.Fatalf("Pick of %d: %v", who, err)
	}
	b.x.pick(t, who)
}

// everyOrder picks in each order, till all is done: how many there are.
func everyOrder(t *testing.T, kind, slots int, plans ...[]engine.Ask) int {
	t.Helper()
	var choices, of []int
	for n := 1; ; n++ {
		b := startBoth(t, kind, proc.Place{Procs: len(plans), Slots: slots})
		for who, l := range plans {
			b.want(t, who, l...)
		}
		for depth := 0; ; depth++ {
			able := b.x.able()
			if len(able) == 0 {
				break
			}
			if depth == len(choices) {
				choices, of = append(choices, 0), append(of, len(able))
			}
			b.pick(t, able[choices[depth]])
			if depth >= len(choices)-3 { // what came ahead of that was looked at in another order
				b.x.hasAll(t, b.e)
			}
		}
		linear(t, b.e)
		for len(choices) > 0 && choices[len(choices)-1]+1 == of[len(of)-1] {
			choices, of = choices[:len(choices)-1], of[:len(of)-1]
		}
		if len(choices) == 0 {
			return n
		}
		choices[len(choices)-1]++
	}
}

// P24.1, P24.2, P24.3: in every order of picks of few processes.
func TestEveryOrder(t *testing.T) {
	nut, bolt := change(add(0, "nut", 1)), change(add(0, "bolt", 1))
	ab, b := change(insert(0, 0, "ab")), change(cut(0, 0, 1))
	for i, x := range []struct {
		kind, slots int
		plans       [][]engine.Ask
	}{
		{object.Stock, 2, [][]engine.Ask{{nut}, {bolt}}},
		{object.Text, 1, [][]engine.Ask{{ab, asOf(0, 1)}, {b}}},
		{object.Text, 2, [][]engine.Ask{{ab, head(0)}, {asOf(0, 1), change(undo(0, 0))}}},
		{object.Text, 1, [][]engine.Ask{{ab}, {asOf(0, 1), leaf(0, 0, 1)}, {b}}},
		{object.Stock, 0, [][]engine.Ask{{nut, head(0)}, {head(0)}, {bolt, asOf(0, 1)}}},
	} {
		if n := everyOrder(t, x.kind, x.slots, x.plans...); n < 30 {
			t.Errorf("%d: only %d orders", i, n)
		}
	}
}

// P24.1, P24.2, P24.3: in every order of more picks.
func TestEveryOrderOfMore(t *testing.T) {
	if testing.Short() {
		t.Skip("takes seconds")
	}
	everyOrder(t, object.Stock, 3, []engine.Ask{change(add(0, "nut", 1)), change(fork(0, 1))}, []engine.Ask{change(undo(0, 0)), prefix(0, 0, 1)})
	everyOrder(t, object.Text, 1, []engine.Ask{change(insert(0, 0, "a"))}, []engine.Ask{change(insert(0, 0, "b")), head(0)}, []engine.Ask{asOf(0, 1)})
}

// someCommand is one that may be, of lines and commands that may be there.
func someCommand(r *rand.Rand, kind int) command.Command {
	b, n := r.Intn(3)*r.Intn(2), r.Intn(9)
	switch r.Intn(9) {
	case 0:
		return undo(b, n)
	case 1:
		return fork(b, n)
	case 2:
		return forward(b, r.Intn(3))
	case 3:
		return retain(b, n/3)
	}
	name := []string{"nut", "bolt", "pin"}[r.Intn(3)]
	switch kind {
	case object.Text:
		if r.Intn(3) > 0 {
			return insert(b, r.Intn(6), name)
		}
		return cut(b, r.Intn(6), 1+r.Intn(4))
	case object.Ledger:
		if r.Intn(3) == 0 {
			return open(b, name)
		}
		if r.Intn(3) == 0 {
			return move(b, name, "", 1+r.Intn(9))
		}
		return move(b, "", name, 1+r.Intn(9))
	}
	if r.Intn(3) > 0 {
		return add(b, name, 1+r.Intn(9))
	}
	return take(b, name, 1+r.Intn(9))
}

// someAsk is one that may be, likewise.
func someAsk(r *rand.Rand, kind int) engine.Ask {
	if r.Intn(2) == 0 {
		return change(someCommand(r, kind))
	}
	return engine.Ask{Kind: engine.AsOf + r.Intn(4), B: r.Intn(3) * r.Intn(2), V: r.Intn(7) - 1, N: 2 + r.Intn(6)}
}

// P24.1, P24.2, P24.3: many processes and slots, some of which stand still for a while, or for ever; what is wanted comes in between.
func TestAnyOrder(t *testing.T) {
	r := rand.New(rand.NewSource(24))
	had := map[string]int{}
	for round := range 900 {
		kind := kinds[round%3]
		p := proc.Place{Procs: 1 + r.Intn(6), Slots: r.Intn(24)}
		b := startBoth(t, kind, p)
		awake := r.Perm(p.Procs)
		for range 40 + r.Intn(400) {
			switch r.Intn(20) {
			case 0:
				awake = r.Perm(p.Procs)[:1+r.Intn(p.Procs)]
			case 1, 2, 3:
				var l []engine.Ask
				for range r.Intn(4) {
					l = append(l, someAsk(r, kind))
				}
				b.want(t, r.Intn(p.Procs), l...)
			case 4:
				b.pick(t, append(edges, p.Procs)[r.Intn(len(edges)+1)])
			case 5:
				b.x.hasAll(t, b.e)
			default:
				b.pick(t, awake[r.Intn(len(awake))])
			}
		}
		b.x.hasAll(t, b.e)
		linear(t, b.e)
		for _, c := range b.x.calls {
			e := "open"
			if c.kind != machine.None {
				n, _ := replied(t, c.answer)
				e = fault.Path(n)
			}
			had[strconv.Itoa(c.a.Kind)+" "+e]++
		}
	}
	for _, word := range []string{"1 open", "1 ok", "1 full", "1 branch", "1 pruned", "1 future", "2 open", "2 ok", "2 future", "2 pruned", "2 branch", "3 ok", "3 branch", "4 ok", "4 range", "4 pruned", "4 branch", "5 ok", "5 range", "5 pruned", "5 branch"} {
		if had[word] < 10 {
			t.Errorf("%s only %d times", word, had[word])
		}
	}
}

// P24.1, P24.2, P24.3: as many processes and slots as there may be; each is picked now and then, the first ones more often.
func TestGreatestPlace(t *testing.T) {
	r := rand.New(rand.NewSource(64256))
	b := startBoth(t, object.Stock, proc.Place{Procs: api.MaxProcs, Slots: api.MaxLog})
	for who := range api.MaxProcs {
		for range 6 + 16/(who+1) {
			b.want(t, who, someAsk(r, object.Stock), change(someCommand(r, object.Stock)))
		}
	}
	for able := b.x.able(); len(able) > 0; able = b.x.able() {
		b.pick(t, able[r.Intn(1+r.Intn(len(able)))])
	}
	b.x.hasAll(t, b.e)
	linear(t, b.e)
	if !b.e.Full() || len(b.e.Order()) != len(b.e.Calls()) {
		t.Errorf("%d are decided, %d of %d calls are in the order", b.e.Len(), len(b.e.Order()), len(b.e.Calls()))
	}
}

// P24.3: one that another one overtakes in each slot, till one helps it, is done within the bound all the same.
func TestOvertaken(t *testing.T) {
	last := api.MaxProcs - 1 // slot 63 is the first one that helps it
	for _, slots := range []int{0, 1, 5, last, last + 1, 100, api.MaxLog} {
		e := start(t, object.Stock, proc.Place{Procs: last + 1, Slots: slots})
		wants(t, e, last, change(add(0, "bolt", 1)))
		for range slots {
			wants(t, e, 0, change(add(0, "nut", 1)))
		}
		runs(t, e, last)
		for n := 1; !e.Idle(last) && n <= e.Place().Bound(); n++ {
			if n%3 == 0 { // it is to swap a slot
				decidesNext(t, e, 0)
			}
			runs(t, e, last)
		}
		want := 1 + 3*min(slots, last+1)
		if !e.Idle(last) || e.Accesses(last) != want || e.Most() < want || e.Most() > e.Place().Bound() {
			t.Errorf("of %d slots: %d steps, want %d; Most %d", slots, e.Accesses(last), want, e.Most())
		}
	}
}

// decidesNext picks a process, till one slot more is decided.
func decidesNext(t *testing.T, e *engine.Engine, who int) {
	t.Helper()
	n := e.Len()
	for range e.Place().Bound() {
		if runs(t, e, who); e.Len() > n {
			return
		}
	}
	t.Fatalf("%d decides nothing", who)
}

// leaves are the bytes of all commands of each line, also of those that are forgotten.
type leaves [][]string

// follow: a Change was done on a table, and was OK.
func (l *leaves) follow(x *branch.Table, c command.Command, at int) {
	switch c.Kind {
	case command.Do, command.Undo:
		line, _ := x.Line(c.B)
		s, _ := line.At(at)
		(*l)[c.B] = append((*l)[c.B], s)
	case command.Fork:
		*l = append(*l, slices.Clone((*l)[c.B][:c.N]))
	case command.Forward:
		(*l)[c.B] = slices.Clone((*l)[c.A])
	}
}

// head is the one over the first n of a line, all of which are there.
func (l leaves) head(t *testing.T, b, n int) proof.Head {
	t.Helper()
	x := tree.New()
	x.Append(l[b][:n]...)
	root, e := x.Root(n)
	if e != api.OK {
		t.Fatal(e)
	}
	return proof.Head{N: n, Root: root}
}

// proves looks whether all that is answered of roots and proofs is of the commands that were done: how many proofs, and how many behind a Retain.
func proves(t *testing.T, e *engine.Engine, kind int) (proofs, behind int) {
	t.Helper()
	x, all := branch.New(kind), leaves{nil}
	retained := map[int]bool{}
	calls := e.Calls()
	for _, i := range e.Order() {
		a, _ := engine.Parse(calls[i].Ask)
		if calls[i].Open() || a.Kind == engine.AsOf {
			if a.Kind == engine.Change {
				follows(x, &all, retained, a.C)
			}
			continue
		}
		n, s := replied(t, calls[i].Answer)
		if a.Kind == engine.Change && n != api.ErrFull {
			follows(x, &all, retained, a.C)
		}
		if a.Kind == engine.Change || n != api.OK {
			continue
		}
		if a.Kind == engine.Head {
			if want := all.head(t, a.B, len(all[a.B])); s != string(want.Root[:]) {
				t.Fatalf("the root of line %d: %x, want %x", a.B, s, want.Root)
			}
			continue
		}
		p, err := proof.Parse(s)
		if err != nil || p.I != a.V || p.N != a.N {
			t.Fatalf("%+v is answered %+v, %v", a, p, err)
		}
		now, old, command := all.head(t, a.B, a.N), proof.Head{}, ""
		if a.Kind == engine.Leaf {
			command = all[a.B][a.V]
		} else {
			old = all.head(t, a.B, a.V)
		}
		if err := p.Proves(command, old, now); err != nil {
			t.Fatalf("%+v: %v", a, err)
		}
		proofs++
		if retained[a.B] {
			behind++
		}
	}
	return proofs, behind
}

// follows does a Change on a table, and follows what was done.
func follows(x *branch.Table, all *leaves, retained map[int]bool, c command.Command) {
	a := command.Apply(x, c)
	if a.Err != api.OK {
		return
	}
	all.follow(x, c, a.At)
	switch c.Kind {
	case command.Retain:
		retained[c.B] = retained[c.B] || c.N > 0
	case command.Fork:
		retained[a.At] = retained[c.B]
	case command.Forward:
		retained[c.B] = retained[c.A]
	}
}

// P24.4: each proof that is answered proves under the roots that are answered, also behind a Retain.
func TestProves(t *testing.T) {
	r := rand.New(rand.NewSource(244))
	proofs, behind := 0, 0
	for round := range 240 {
		kind := kinds[round%3]
		p := proc.Place{Procs: 1 + r.Intn(4), Slots: 10 + r.Intn(50)}
		e := start(t, kind, p)
		for range p.Slots {
			who := r.Intn(p.Procs)
			wants(t, e, who, change(someCommand(r, kind)), head(r.Intn(2)))
			for range 3 {
				a := engine.Ask{Kind: engine.Leaf + r.Intn(2), B: r.Intn(2) * r.Intn(3), V: r.Intn(12), N: r.Intn(30)}
				a.V = min(a.V, a.N)
				wants(t, e, who, a)
			}
		}
		for range 40 * p.Slots {
			runs(t, e, r.Intn(p.Procs))
		}
		n, m := proves(t, e, kind)
		proofs, behind = proofs+n, behind+m
	}
	if proofs < 1000 || behind < 500 {
		t.Errorf("only %d proofs, %d behind a Retain", proofs, behind)
	}
}

// P24.4: the proofs of one line, of all kinds, ahead of a Retain and behind it; the root that was answered ahead of it is the same.
func TestProvesBehindRetain(t *testing.T) {
	e := start(t, object.Stock, proc.Place{Procs: 2, Slots: 20})
	var l []engine.Ask
	for range 9 {
		l = append(l, change(add(0, "nut", 1)), head(0))
	}
	asks(t, e, 0, l...)
	was := asks(t, e, 1, head(0))
	for floor := range 10 {
		asks(t, e, floor%2, change(retain(0, floor)))
		if got := asks(t, e, 1, head(0)); !slices.Equal(got, was) {
			t.Fatalf("the root was %x, and is %x", was, got)
		}
		l = nil
		for n := range 10 {
			for i := range n + 1 {
				l = append(l, leaf(0, i, n), prefix(0, i, n))
			}
		}
		asks(t, e, 0, l...)
	}
	if n, m := proves(t, e, object.Stock); n < 380 || m < 280 {
		t.Errorf("only %d proofs, %d behind a Retain", n, m)
	}
}

// K4: the same calls are answered in the same way.
func TestSame(t *testing.T) {
	var first []string
	for i := range 20 {
		r := rand.New(rand.NewSource(5))
		e := start(t, object.Stock, proc.Place{Procs: 9, Slots: 30})
		for range 600 {
			who := r.Intn(9)
			if r.Intn(6) == 0 {
				wants(t, e, who, someAsk(r, object.Stock))
			}
			runs(t, e, who)
		}
		if i == 0 {
			first = told(e)
		}
		if !slices.Equal(told(e), first) {
			t.Fatalf("%q, and then %q", first, told(e))
		}
	}
}
