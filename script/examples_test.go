package script_test

import (
	"slices"
	"strings"
	"testing"

	"hindsight/api"
	"hindsight/command"
	"hindsight/digest"
	"hindsight/engine"
	"hindsight/object"
	"hindsight/proc"
	"hindsight/proof"
	"hindsight/stock"
	"hindsight/text"
	"hindsight/wire"
)

// alone plays asks of one process, till all are answered: what that is.
func alone(t *testing.T, kind, slots int, asks ...string) []string {
	t.Helper()
	p := proc.Place{Procs: 1, Slots: slots}
	l := plays(t, kind, p, strings.Join(asks, "\n")+"\npick"+strings.Repeat(" 0", len(asks)*p.Bound()))
	if len(l) != len(asks) {
		t.Fatalf("%d answers of %d asks", len(l), len(asks))
	}
	return l
}

// saved are the bytes of what ops make of an object.
func saved(t *testing.T, kind int, ops ...object.Op) string {
	t.Helper()
	x := object.New(kind)
	for _, o := range ops {
		if r := x.Do(o); r.Err != api.OK {
			t.Fatalf("%+v: %v", o, r.Err)
		}
	}
	return x.Save()
}

func inserts(at int, s string) object.Op {
	return object.Op{Kind: object.Text, Text: text.Op{Kind: text.Insert, At: at, S: s}}
}

func adds(name string, n int) object.Op {
	return object.Op{Kind: object.Stock, Stock: stock.Op{Kind: stock.Add, Name: name, N: n}}
}

func takes(name string, n int) object.Op {
	return object.Op{Kind: object.Stock, Stock: stock.Op{Kind: stock.Take, Name: name, N: n}}
}

// changedTo looks what a Change is answered.
func changedTo(t *testing.T, reply string, want command.Answer) {
	t.Helper()
	if got := changed(t, reply); got != want {
		t.Fatalf("%+v, want %+v", got, want)
	}
}

// The document's first example: the sum of "abc".
func TestExample1(t *testing.T) {
	if s := digest.Hex(digest.Of("abc")); !strings.HasPrefix(s, "ba7816bf") {
		t.Error(s)
	}
}

// The document's second example, P5: version 1 is "ab", version 2 "cab".
func TestExample2(t *testing.T) {
	l := alone(t, object.Text, 2, "0 insert 0 0 ab", "0 insert 0 0 c", "0 asof 0 1", "0 asof 0 2", "0 asof 0 0", "0 asof 0 3")
	answersAre(t, l[2:], "\x00\x03\x02ab", "\x00\x04\x03cab", "\x00\x01\x00", "\x0d\x00")
	if engine.Reply(api.OK, saved(t, object.Text, inserts(0, "ab"), inserts(0, "c"))) != l[3] {
		t.Errorf("%q", l[3])
	}
}

// The document's third example, P7: the third command is Take nut.
func TestExample3(t *testing.T) {
	p := proc.Place{Procs: 1, Slots: 9}
	e := start(t, object.Stock, p)
	l := runs(t, e, "0 add 0 nut 1\n0 add 0 bolt 1\n0 undo 0 0\n0 asof 0 3\npick"+strings.Repeat(" 0", 4*p.Bound()))
	changedTo(t, l[2], command.Answer{At: 2})
	answersAre(t, l[3:], engine.Reply(api.OK, saved(t, object.Stock, adds("bolt", 1))))
	line, err := e.Table().Line(0)
	if err != nil {
		t.Fatal(err)
	}
	if c, err := line.Command(2); err != nil || c.Of != 1 || c.Op != takes("nut", 1) || line.Len() != 3 {
		t.Errorf("%+v, %v", c, err)
	}
}

// The document's fourth example, P7: a conflict.
func TestExample4(t *testing.T) {
	l := alone(t, object.Stock, 9, "0 add 0 nut 1", "0 add 0 nut 1", "0 undo 0 0", "0 undo 0 1", "0 asof 0 3")
	changedTo(t, l[2], command.Answer{Err: api.ErrConflict})
	changedTo(t, l[3], command.Answer{At: 2})
	answersAre(t, l[4:], engine.Reply(api.OK, saved(t, object.Stock, adds("nut", 1))))
}

// The document's fifth example, P7: lines that have diverged; a line that goes on from another one is caught up with.
func TestExample5(t *testing.T) {
	l := alone(t, object.Stock, 9, "0 add 0 nut 1", "0 fork 0 1", "0 add 1 bolt 2", "0 forward 0 1", "0 asof 0 2", "0 add 0 pin 3", "0 add 1 pin 4", "0 forward 0 1", "0 forward 1 0", "0 asof 0 3", "0 asof 1 3")
	changedTo(t, l[1], command.Answer{At: 1})
	changedTo(t, l[3], command.Answer{At: 0})
	changedTo(t, l[7], command.Answer{Err: api.ErrDiverged})
	changedTo(t, l[8], command.Answer{Err: api.ErrDiverged})
	both := saved(t, object.Stock, adds("nut", 1), adds("bolt", 2))
	answersAre(t, []string{l[4], l[9], l[10]}, engine.Reply(api.OK, both), engine.Reply(api.OK, saved(t, object.Stock, adds("nut", 1), adds("bolt", 2), adds("pin", 3))), engine.Reply(api.OK, saved(t, object.Stock, adds("nut", 1), adds("bolt", 2), adds("pin", 4))))
}

// The document's sixth example, P5, P6: version 4 is pruned; the proof of command 5 still proves, under the root that was answered ahead of that.
func TestExample6(t *testing.T) {
	e := start(t, object.Stock, proc.Place{Procs: 2, Slots: 9})
	l := runs(t, e, strings.Repeat("0 add 0 nut 1\n", 7)+"0 head 0\n0 retain 0 5\n0 asof 0 4\n0 asof 0 5\n0 leaf 0 5 7\n0 leaf 0 4 7\n0 head 0\npick"+strings.Repeat(" 0", 200))
	if len(l) != 14 {
		t.Fatalf("%d answers", len(l))
	}
	answersAre(t, []string{l[9], l[10], l[12], l[13]}, "\x0e\x00", engine.Reply(api.OK, saved(t, object.Stock, adds("nut", 5))), "\x0e\x00", l[7])
	_, root := replied(t, l[7])
	n, s := replied(t, l[11])
	p, err := proof.Parse(s)
	if n != api.OK || err != nil {
		t.Fatal(n, err)
	}
	var w wire.Writer
	adds("nut", 1).Put(w.Num(0))
	if err := p.Proves(w.Text(), proof.Head{}, proof.Head{N: 7, Root: api.Sum([]byte(root))}); err != nil {
		t.Error(err)
	}
}

// The document's seventh example, P4: of two processes, and one slot, one is decided, and the other one is told that the log is full.
func TestExample7(t *testing.T) {
	for _, picks := range []string{" 0 1", " 1 0", " 0 0 0 0 1 1 1 1", " 0 1 1 1 0 0", " 1 1 0 0 0 1 1 0 0 0 1"} {
		l := plays(t, object.Stock, proc.Place{Procs: 2, Slots: 1}, "0 add 0 nut 1\n1 add 0 bolt 1\npick"+strings.Repeat(picks, 6))
		slices.Sort(l)
		answersAre(t, l, "\x00\x03\x00\x00\x00", "\x07\x00")
	}
}

// The document's eighth example, P3, P4: of a process that says its wish, and never steps again, others decide the record.
func TestExample8(t *testing.T) {
	p := proc.Place{Procs: 2, Slots: 4}
	l := plays(t, object.Stock, p, "1 add 0 bolt 2\npick 1\n0 add 0 nut 1\n0 add 0 nut 1\n0 asof 0 3\npick"+strings.Repeat(" 0", 3*p.Bound()))
	answersAre(t, l, "", "\x00\x03\x00\x00\x00", "\x00\x03\x00\x02\x00", engine.Reply(api.OK, saved(t, object.Stock, adds("bolt", 2), adds("nut", 2))))
}

// The document's ninth example, P6: a proof with one bit turned proves nothing.
func TestExample9(t *testing.T) {
	l := alone(t, object.Text, 9, "0 insert 0 0 a", "0 insert 0 0 b", "0 insert 0 0 c", "0 leaf 0 1 3", "0 head 0")
	_, s := replied(t, l[3])
	_, root := replied(t, l[4])
	p, err := proof.Parse(s)
	if err != nil {
		t.Fatal(err)
	}
	h := proof.Head{N: 3, Root: api.Sum([]byte(root))}
	var w wire.Writer
	inserts(0, "b").Put(w.Num(0))
	if err := p.Proves(w.Text(), proof.Head{}, h); err != nil {
		t.Fatal(err)
	}
	for i := range p.Sums {
		for bit := range 256 {
			p.Sums[i][bit/8] ^= 1 << (bit % 8)
			isFault(t, "Proves", p.Proves(w.Text(), proof.Head{}, h), "leaf", 1, api.ErrProof)
			p.Sums[i][bit/8] ^= 1 << (bit % 8)
		}
	}
}

// The document's tenth example, and the chapter's own: two answers, of which the second one has the nuts.
func TestExample10(t *testing.T) {
	l := plays(t, object.Stock, proc.Place{Procs: 1, Slots: 9}, "0 add 0 nut 5\n0 asof 0 1\npick 0 0 0 0 0 0")
	answersAre(t, l, "\x00\x03\x00\x00\x00", engine.Reply(api.OK, saved(t, object.Stock, adds("nut", 5))))
}
