package script_test

import (
	"math/rand"
	"slices"
	"strconv"
	"strings"
	"testing"

	"hindsight/api"
	"hindsight/audit"
	"hindsight/command"
	"hindsight/digest"
	"hindsight/engine"
	"hindsight/history"
	"hindsight/object"
	"hindsight/proc"
	"hindsight/proof"
	"hindsight/prune"
	"hindsight/replay"
	"hindsight/script"
	"hindsight/undo"
	"hindsight/wire"
)

// kinds are all that there are of objects.
var kinds = []int{object.Text, object.Ledger, object.Stock}

// sentence is a line of a process, a verb and its words.
func sentence(who int, words []any) string {
	s := strconv.Itoa(who)
	for _, x := range words {
		if n, ok := x.(int); ok {
			x = strconv.Itoa(n)
		}
		s += " " + x.(string)
	}
	return s
}

// someAsk is an ask of a process, as a line: of lines, commands and versions that may be there.
func someAsk(r *rand.Rand, kind, who int) string {
	b, n := r.Intn(3)*r.Intn(2), r.Intn(12)
	switch r.Intn(15) {
	case 0:
		return sentence(who, []any{"undo", b, n})
	case 1:
		return sentence(who, []any{"fork", b, n})
	case 2, 3:
		return sentence(who, []any{"forward", b, r.Intn(3)})
	case 4:
		return sentence(who, []any{"retain", b, n / 3})
	case 5:
		return sentence(who, []any{"asof", b, n})
	case 6:
		return sentence(who, []any{"head", b})
	case 7:
		return sentence(who, []any{"leaf", b, r.Intn(5), r.Intn(9)})
	case 8:
		return sentence(who, []any{"prefix", b, r.Intn(5), r.Intn(9)})
	}
	return sentence(who, someOp(r, kind, b, []string{"nut", "bolt", "pin"}[r.Intn(3)]))
}

// someOp is an op on a line, as words.
func someOp(r *rand.Rand, kind, b int, name string) []any {
	n := 1 + r.Intn(9)
	switch kind {
	case object.Text:
		if r.Intn(3) > 0 {
			return []any{"insert", b, r.Intn(6), name}
		}
		return []any{"delete", b, r.Intn(6), 1 + r.Intn(4)}
	case object.Ledger:
		switch r.Intn(5) {
		case 0:
			return []any{"close", b, name}
		case 1, 2:
			return []any{"open", b, name}
		case 3:
			return []any{"move", b, name, "-", n}
		}
		return []any{"move", b, "-", name, n}
	}
	if r.Intn(3) > 0 {
		return []any{"add", b, name, n}
	}
	return []any{"take", b, name, n}
}

// somePicks are picks of processes, as a line.
func somePicks(r *rand.Rand, procs int) string {
	s := "pick"
	for range 1 + r.Intn(40) {
		s += " " + strconv.Itoa(r.Intn(procs))
	}
	return s
}

// someScript is a script of at most so many lines.
func someScript(r *rand.Rand, kind, procs, most int) string {
	s := ""
	for range 1 + r.Intn(most) {
		if r.Intn(2) == 0 {
			s += somePicks(r, procs) + "\n"
		} else {
			s += someAsk(r, kind, r.Intn(procs)) + "\n"
		}
	}
	return s
}

// line is one of the second telling: all that was ever done on it.
type line struct {
	commands []replay.Command
	floor    int
}

// object is what the first n commands make.
func (l line) object(kind, n int) object.State {
	x := object.New(kind)
	for _, c := range l.commands[:n] {
		x.Do(c.Op)
	}
	return x
}

// bytes are those of the first n commands.
func (l line) bytes(n int) []string {
	var s []string
	for _, c := range l.commands[:n] {
		s = append(s, c.Text())
	}
	return s
}

// branch is another line of the first n commands.
func (l line) branch(n int) line {
	return line{slices.Clone(l.commands[:n]), l.floor}
}

// wrong is why a version isn't there.
func (l line) wrong(v int) api.Errno {
	switch {
	case v > len(l.commands):
		return api.ErrFuture
	case v < l.floor:
		return api.ErrPruned
	}
	return api.OK
}

// table is a second telling of one table, which one client asks.
type table struct {
	kind, slots, decided int
	lines                []line
}

// answer is what an ask is answered.
func (x *table) answer(a engine.Ask) string {
	if a.Kind != engine.Change {
		e, s := x.read(a)
		return engine.Reply(e, s)
	}
	if x.decided == x.slots {
		return engine.Reply(api.ErrFull, "")
	}
	x.decided++
	answer := command.Answer{Err: api.ErrBranch}
	if a.C.B < len(x.lines) {
		answer = x.change(a.C)
	}
	return engine.Reply(answer.Err, answer.Text())
}

// change is done on a line that is there.
func (x *table) change(c command.Command) command.Answer {
	l := &x.lines[c.B]
	e, at := api.OK, len(l.commands)
	switch c.Kind {
	case command.Do:
		r := l.object(x.kind, at).Do(c.Op)
		if r.Err != api.OK {
			return command.Answer{Err: r.Err}
		}
		l.commands = append(l.commands, replay.Command{Op: c.Op})
		return command.Answer{At: at, Gone: r.Gone}
	case command.Undo:
		e = x.takeBack(l, c.N)
	case command.Fork:
		at = len(x.lines)
		if e = l.wrong(c.N); at == 16 {
			e = api.ErrFull
		}
		if e == api.OK {
			x.lines = append(x.lines, l.branch(c.N))
		}
	case command.Forward:
		at = c.B
		e = x.forward(l, c.A)
	case command.Retain:
		at = c.N
		if e = l.wrong(c.N); e == api.OK {
			l.floor = c.N
		}
	}
	if e != api.OK {
		return command.Answer{Err: e}
	}
	return command.Answer{At: at}
}

// takeBack takes a command of a line back.
func (x *table) takeBack(l *line, n int) api.Errno {
	if n >= len(l.commands) {
		return api.ErrFuture
	}
	if n < l.floor {
		return api.ErrPruned
	}
	if slices.ContainsFunc(l.commands, func(c replay.Command) bool { return c.Of == n+1 }) {
		return api.ErrUndone
	}
	c := l.commands[n]
	if c.Of > 0 {
		return api.ErrFixed
	}
	for _, later := range l.commands[n+1:] {
		if !object.Apart(c.Op, later.Op) {
			return api.ErrConflict
		}
	}
	back := c.Op.Inverse(l.object(x.kind, n).Do(c.Op))
	if l.object(x.kind, len(l.commands)).Do(back).Err != api.OK {
		return api.ErrConflict
	}
	l.commands = append(l.commands, replay.Command{Op: back, Of: n + 1})
	return api.OK
}

// forward lets a line be what another one is.
func (x *table) forward(l *line, a int) api.Errno {
	if a >= len(x.lines) {
		return api.ErrBranch
	}
	other, n := x.lines[a], len(l.commands)
	switch {
	case n > len(other.commands):
		return api.ErrDiverged
	case n < other.floor:
		return api.ErrPruned
	case !slices.Equal(l.bytes(n), other.bytes(n)):
		return api.ErrDiverged
	}
	*l = other.branch(len(other.commands))
	return api.OK
}

// read is what is there of a line.
func (x *table) read(a engine.Ask) (api.Errno, string) {
	if a.B >= len(x.lines) {
		return api.ErrBranch, ""
	}
	l := x.lines[a.B]
	n := len(l.commands)
	e := api.OK
	switch a.Kind {
	case engine.AsOf:
		if e = l.wrong(a.V); e != api.OK {
			return e, ""
		}
		return e, l.object(x.kind, a.V).Save()
	case engine.Head:
		root := rootOver(l.bytes(n))
		return e, string(root[:])
	}
	p := proof.Proof{Kind: a.Kind - engine.Leaf + proof.Leaf, I: a.V, N: a.N}
	switch {
	case a.N > n || a.V > a.N || a.V == a.N && a.Kind == engine.Leaf:
		return api.ErrRange, ""
	case a.V < l.floor:
		return api.ErrPruned, ""
	case a.Kind == engine.Leaf:
		p.Sums = proofOf(a.V, l.bytes(a.N))
	case a.V > 0:
		p.Sums = proofOfFirst(a.V, l.bytes(a.N), true)
	}
	return e, p.Text()
}

// parts are both halves of two leaves and more.
func parts(l []string) ([]string, []string) {
	k := 1
	for 2*k < len(l) {
		k *= 2
	}
	return l[:k], l[k:]
}

// rootOver is the root over leaves.
func rootOver(l []string) api.Sum {
	if len(l) == 0 {
		return digest.Of("")
	}
	if len(l) == 1 {
		return digest.Leaf(l[0])
	}
	left, right := parts(l)
	return digest.Node(rootOver(left), rootOver(right))
}

// proofOf is the proof of a leaf.
func proofOf(i int, l []string) []api.Sum {
	if len(l) == 1 {
		return nil
	}
	left, right := parts(l)
	if i < len(left) {
		return append(proofOf(i, left), rootOver(right))
	}
	return append(proofOf(i-len(left), right), rootOver(left))
}

// proofOfFirst is the proof of the first m, 1 and more; are the leaves the first ones of all?
func proofOfFirst(m int, l []string, first bool) []api.Sum {
	if m == len(l) {
		if first {
			return nil
		}
		return []api.Sum{rootOver(l)}
	}
	left, right := parts(l)
	if m <= len(left) {
		return append(proofOfFirst(m, left, first), rootOver(right))
	}
	return append(proofOfFirst(m-len(left), right, false), rootOver(left))
}

// replied is what a reply says.
func replied(t *testing.T, reply string) (api.Errno, string) {
	t.Helper()
	r := wire.Read(reply)
	e, s := api.Errno(r.Upto(int(api.ErrBusy))), r.Str(1<<20)
	if r.End() != api.OK {
		t.Fatalf("%x isn't a reply", reply)
	}
	return e, s
}

// changed is what a reply says of a Change.
func changed(t *testing.T, reply string) command.Answer {
	t.Helper()
	e, s := replied(t, reply)
	a, err := command.ParseAnswer(s)
	if err != nil || a.Err != e {
		t.Fatalf("%x: %+v, %v", reply, a, err)
	}
	return a
}

// linear holds all answers of an engine against one table that answers one call behind the other, in an order that may be: that table.
func linear(t *testing.T, kind int, e *engine.Engine, had map[string]int) *table {
	t.Helper()
	x := &table{kind: kind, slots: e.Place().Slots, lines: make([]line, 1)}
	calls, order := e.Calls(), e.Order()
	if err := history.Order(calls, order...); err != nil {
		t.Fatalf("%v: %v of %+v", err, order, calls)
	}
	for at, i := range order {
		a, err := engine.Parse(calls[i].Ask)
		if err != nil {
			t.Fatal(err)
		}
		want := x.answer(a)
		n, _ := replied(t, want)
		had[strconv.Itoa(a.Kind)+strconv.Itoa(a.C.Kind)+" "+n.Error()]++
		if calls[i].Open() {
			had["open"]++
		} else if calls[i].Answer != want {
			t.Fatalf("place %d of %v: %+v is answered %x, want %x", at, order, a, calls[i].Answer, want)
		}
	}
	return x
}

// sameLines holds all lines of an engine against those of the second telling.
func (x *table) sameLines(t *testing.T, e *engine.Engine) {
	t.Helper()
	if e.Table().Len() != len(x.lines) || e.Len() != x.decided {
		t.Fatalf("%d lines behind %d, want %d behind %d", e.Table().Len(), e.Len(), len(x.lines), x.decided)
	}
	for b, want := range x.lines {
		l, err := e.Table().Line(b)
		if err != nil || l.Len() != len(want.commands) || l.Floor() != want.floor {
			t.Fatalf("line %d: %v, %d commands from %d on, want %d from %d on", b, err, l.Len(), l.Floor(), len(want.commands), want.floor)
		}
		for v := range l.Len() + 1 {
			s, err := l.AsOf(v)
			if v < want.floor && err == nil || v >= want.floor && (err != nil || s != want.object(x.kind, v).Save()) {
				t.Fatalf("version %d of line %d: %x, %v", v, b, s, err)
			}
		}
	}
}

// P3, P5, P7: LINEAR, ASOF, BACK: whatever scripts are played, one table that tells everything anew answers each call the same, in an order that may be; and each version is what the first commands make.
func TestLinear(t *testing.T) {
	if testing.Short() {
		t.Skip("takes seconds")
	}
	r := rand.New(rand.NewSource(3))
	had := map[string]int{}
	for round := range 1800 {
		kind, p := kinds[round%3], proc.Place{Procs: 1 + r.Intn(6), Slots: 1 + r.Intn(60)}
		e := start(t, kind, p)
		got := runs(t, e, someScript(r, kind, p.Procs, script.MaxLines))
		got = runs(t, e, someScript(r, kind, p.Procs, script.MaxLines))
		for i, c := range e.Calls() {
			if got[i] != c.Answer {
				t.Fatalf("%x, want %x", got[i], c.Answer)
			}
		}
		linear(t, kind, e, had).sameLines(t, e)
	}
	for _, word := range []string{"open", "11 ok", "11 branch", "11 range", "11 none", "11 there", "11 short", "11 full", "12 ok", "12 branch", "12 future", "12 pruned", "12 undone", "12 fixed", "12 conflict", "13 ok", "13 branch", "13 future", "13 pruned", "13 full", "14 ok", "14 branch", "14 diverged", "14 pruned", "15 ok", "15 branch", "15 future", "15 pruned", "20 ok", "20 branch", "20 future", "20 pruned", "30 ok", "30 branch", "40 ok", "40 branch", "40 range", "40 pruned", "50 ok", "50 branch", "50 range", "50 pruned"} {
		if had[word] < 10 {
			t.Errorf("%s only %d times", word, had[word])
		}
	}
}

// P4: WAIT-FREE: within 2 steps of its own, and 3 for each slot, a call is answered, while all others stand still where they are.
func TestWaitFree(t *testing.T) {
	r := rand.New(rand.NewSource(4))
	calls := 0
	for round := range 600 {
		kind, p := kinds[round%3], proc.Place{Procs: 2 + r.Intn(6), Slots: r.Intn(12)}
		e := start(t, kind, p)
		runs(t, e, someScript(r, kind, p.Procs, 60))
		for _, who := range r.Perm(p.Procs) {
			for e.Left(who) > 0 || !e.Idle(who) {
				answered(t, e, who)
				calls++
			}
		}
		if e.Most() > 2+3*p.Slots || slices.Contains(runs(t, e, ""), "") {
			t.Fatalf("%d steps; %q", e.Most(), runs(t, e, ""))
		}
		linear(t, kind, e, map[string]int{})
	}
	if calls < 500 {
		t.Errorf("only %d calls", calls)
	}
}

// answered picks a process, and nobody else, till its call is answered.
func answered(t *testing.T, e *engine.Engine, who int) {
	t.Helper()
	for range 2 + 3*e.Place().Slots {
		if runs(t, e, "pick "+strconv.Itoa(who)); e.Idle(who) {
			return
		}
	}
	t.Fatalf("the call of %d isn't answered yet, of %+v", who, e.Place())
}

// P4: a full log says so, and nothing changes, then or later.
func TestFull(t *testing.T) {
	e := start(t, object.Stock, proc.Place{Procs: 3, Slots: 2})
	runs(t, e, "0 add 0 nut 1\n1 add 0 bolt 1\n2 add 0 pin 1\npick 0 1 2 2 1 0 0 0 1 1 0 2 2 1 0 1 2 0 0 1 1 2 2")
	x := linear(t, object.Stock, e, map[string]int{})
	was := x.lines[0].object(object.Stock, 2).Save()
	for range 3 {
		got := runs(t, e, "0 add 0 cog 1\n1 retain 0 2\n2 fork 0 1\npick"+strings.Repeat(" 0 1 2", 8))
		for _, s := range got[len(got)-3:] {
			if s != "\x07\x00" {
				t.Errorf("%x", s)
			}
		}
		got = runs(t, e, "0 asof 0 2\n1 asof 0 0\n2 asof 1 0\npick 0 1 2 0 1 2 0 1 2")
		answersAre(t, got[len(got)-3:], engine.Reply(api.OK, was), "\x00\x01\x00", "\x0f\x00")
	}
	full := 0
	for _, s := range runs(t, e, "")[:3] {
		if s == "\x07\x00" {
			full++
		}
	}
	if full != 1 {
		t.Errorf("%d of three Changes found two slots full", full)
	}
}

// verdict is what a proof of a leaf, or of an elder head, comes to.
func verdict(v *prune.Vault, p proof.Proof, leaf string, old proof.Head) int {
	if p.Kind == proof.Leaf {
		return audit.Leaf(v, leaf, p).Kind
	}
	return audit.Prefix(v, old, p).Kind
}

// wrongs are the verdicts of what is otherwise than a proof, by one bit, or by one sum.
func wrongs(r *rand.Rand, v *prune.Vault, p proof.Proof, leaf string, old proof.Head) []int {
	other := old
	other.Root[r.Intn(32)] ^= 1 << r.Intn(8)
	l := []int{verdict(v, p, leaf+"x", other)}
	q := p
	q.Sums = append(slices.Clone(p.Sums), api.Sum{})
	l = append(l, verdict(v, q, leaf, old))
	if len(p.Sums) > 0 {
		q.Sums = p.Sums[1:]
		l = append(l, verdict(v, q, leaf, old))
		q.Sums = slices.Clone(p.Sums)
		q.Sums[r.Intn(len(q.Sums))][r.Intn(32)] ^= 1 << r.Intn(8)
		l = append(l, verdict(v, q, leaf, old))
	}
	return l
}

// proves looks at all proofs of line 0 that were answered: how many, and how many wrong ones are refused.
func proves(t *testing.T, r *rand.Rand, e *engine.Engine, v *prune.Vault) (right, refused int) {
	t.Helper()
	for _, c := range e.Calls() {
		a, _ := engine.Parse(c.Ask)
		n, s := replied(t, c.Answer)
		if a.Kind < engine.Leaf || n != api.OK {
			continue
		}
		p, err := proof.Parse(s)
		if err != nil || p.I != a.V || p.N != a.N {
			t.Fatalf("%+v: %+v, %v", a, p, err)
		}
		leaf, _ := v.At(a.V)
		old, _ := v.Head(a.V)
		if got := verdict(v, p, leaf, old); got != audit.Right {
			t.Fatalf("%+v: %+v is %d", a, p, got)
		}
		right++
		for i, got := range wrongs(r, v, p, leaf, old) {
			if got != audit.Refused {
				t.Fatalf("%+v: %+v with wrong %d is %d", a, p, i, got)
			}
			refused++
		}
	}
	return right, refused
}

// P6: PROVES, SURE: what a line answers proves, also behind a Retain, and what is otherwise by one bit proves nothing. (Two texts of one sum are found with sums of four bits, in packages clash and audit.)
func TestProves(t *testing.T) {
	r := rand.New(rand.NewSource(6))
	right, refused := 0, 0
	for round := range 200 {
		kind, p := kinds[round%3], proc.Place{Procs: 1 + r.Intn(3), Slots: 20 + r.Intn(40)}
		e := start(t, kind, p)
		s := ""
		for n := range 60 {
			who := r.Intn(p.Procs)
			s += sentence(who, someOp(r, kind, 0, "nut")) + "\n"
			s += sentence(who, []any{[]string{"leaf", "prefix"}[n%2], 0, r.Intn(6), r.Intn(20)}) + "\n"
			if n%20 == 19 {
				s += sentence(who, []any{"retain", 0, r.Intn(4)}) + "\n"
			}
		}
		runs(t, e, s)
		for who := range p.Procs {
			for e.Left(who) > 0 {
				runs(t, e, somePicks(r, p.Procs))
			}
		}
		for who := range p.Procs {
			if !e.Idle(who) {
				answered(t, e, who)
			}
		}
		all := prune.New()
		l := linear(t, kind, e, map[string]int{}).lines[0]
		all.Add(l.bytes(len(l.commands))...)
		n, m := proves(t, r, e, all)
		right, refused = right+n, refused+m
	}
	if right < 1000 || refused < 3000 {
		t.Errorf("only %d proofs are right, %d wrong ones refused", right, refused)
	}
}

// P7: BACK: behind each Undo that is OK the object is what all commands but that one make; no version changes.
func TestBack(t *testing.T) {
	r := rand.New(rand.NewSource(77))
	backs := 0
	for round := range 600 {
		kind := kinds[1+round%2]
		e := start(t, kind, proc.Place{Procs: 1, Slots: 40})
		for range 12 {
			runs(t, e, someAsk(r, kind, 0)+"\npick"+strings.Repeat(" 0", e.Place().Bound()))
		}
		l, _ := e.Table().Line(0)
		n := l.Len()
		if n == 0 {
			continue
		}
		i := r.Intn(n)
		without, whole := undo.Without(l, i)
		var versions []string
		for v := range n + 1 {
			s, _ := l.AsOf(v)
			versions = append(versions, s)
		}
		got := runs(t, e, "0 undo 0 "+strconv.Itoa(i)+"\npick"+strings.Repeat(" 0", e.Place().Bound()))
		if changed(t, got[len(got)-1]) != (command.Answer{At: n}) {
			continue
		}
		backs++
		l, _ = e.Table().Line(0)
		if whole && l.Save() != without || !whole && l.Floor() == 0 {
			t.Fatalf("behind undo %d: %x, want %x, %v", i, l.Save(), without, whole)
		}
		for v, want := range versions {
			if s, _ := l.AsOf(v); s != want {
				t.Fatalf("version %d: %x, want %x", v, s, want)
			}
		}
	}
	if backs < 60 {
		t.Errorf("only %d were taken back", backs)
	}
}
