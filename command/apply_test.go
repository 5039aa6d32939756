package command_test

import (
	"math"
	"math/rand"
	"slices"
	"strconv"
	"testing"

	"hindsight/api"
	"hindsight/branch"
	"hindsight/command"
	"hindsight/fault"
	"hindsight/object"
	"hindsight/replay"
	undoing "hindsight/undo"
)

// told is all that a table tells.
func told(x *branch.Table) []string {
	var l []string
	for b := range x.Len() {
		line, _ := x.Line(b)
		head, _ := line.Head(line.Len())
		l = append(l, strconv.Itoa(line.Kind())+" "+strconv.Itoa(line.Len())+" "+strconv.Itoa(line.Floor())+" "+string(head.Root[:]))
		for v := line.Floor(); v <= line.Len(); v++ {
			s, _ := line.AsOf(v)
			by, was := line.Undone(v)
			l = append(l, s, strconv.Itoa(by)+strconv.FormatBool(was))
		}
	}
	return l
}

// second is a second telling of Apply, on another table, by the calls of layers 14, 20 and 21 that the chapter names.
func second(x *branch.Table, c command.Command) command.Answer {
	var a command.Answer
	var err error = api.ErrKind
	switch c.Kind {
	case command.Do:
		var r object.Result
		a.At, r, err = x.Do(c.B, replay.Command{Op: c.Op})
		a.Gone = r.Gone
	case command.Undo:
		var l *replay.Line
		if l, err = x.Line(c.B); err == nil {
			_, err = undoing.Do(l, c.N)
			a.At = l.Len() - 1
		}
	case command.Fork:
		a.At, err = x.Fork(c.B, c.N)
	case command.Forward:
		a.At, err = c.B, x.Forward(c.B, c.A)
	case command.Retain:
		a.At, err = c.N, x.Retain(c.B, c.N)
	}
	if err != nil {
		return command.Answer{Err: fault.Of(err)}
	}
	return a
}

// answers looks whether commands on a table are answered as is wanted.
func answers(t *testing.T, x *branch.Table, l []command.Command, want []command.Answer) {
	t.Helper()
	for i, c := range l {
		was := told(x)
		a := command.Apply(x, c)
		if a != want[i] {
			t.Fatalf("%d, %+v: %+v, want %+v", i, c, a, want[i])
		}
		if a.Err != api.OK && !slices.Equal(told(x), was) {
			t.Fatalf("%d, %+v: %+v, and something changed", i, c, a)
		}
	}
}

// P22.1: the chapter's example.
func TestExample(t *testing.T) {
	x := branch.New(object.Stock)
	answers(t, x, []command.Command{add(0, "nut", 1), undo(0, 0)}, []command.Answer{{At: 0}, {At: 1}})
}

// P22.1: what each kind does, and what it is answered.
func TestApply(t *testing.T) {
	x := branch.New(object.Text)
	answers(t, x, []command.Command{
		insert(0, 0, "abcd"), cut(0, 1, 2), fork(0, 1), insert(1, 4, "e"), fork(1, 2), cut(2, 0, 5),
		undo(2, 2), undo(0, 1), forward(1, 2), forward(0, 1), forward(1, 1), retain(0, 2), retain(0, 3), fork(0, 3), forward(3, 0),
	}, []command.Answer{
		{At: 0}, {At: 1, Gone: "bc"}, {At: 1}, {At: 1}, {At: 2}, {At: 2, Gone: "abcde"},
		{At: 3}, {At: 2}, {At: 1}, {Err: api.ErrDiverged}, {At: 1}, {At: 2}, {At: 3}, {At: 3}, {At: 3},
	})
	for b, want := range []string{"\x04abcd", "\x05abcde", "\x05abcde", "\x04abcd"} {
		if l, _ := x.Line(b); l.Save() != want {
			t.Errorf("line %d: %x, want %x", b, l.Save(), want)
		}
	}
	l, _ := x.Line(0)
	if last, err := l.Command(2); err == nil || l.Floor() != 3 || fault.Of(err) != api.ErrPruned {
		t.Errorf("line 0 has %+v, its floor is %d", last, l.Floor())
	}
	l, _ = x.Line(2)
	if last, err := l.Command(3); err != nil || last.Of != 3 {
		t.Errorf("command 3 of line 2: %+v, %v", last, err)
	}
	l, _ = x.Line(1)
	if first, err := l.Command(0); err != nil || first.Of != 0 {
		t.Errorf("command 0 of line 1: %+v, %v", first, err)
	}
}

// P22.1: each error of the layers below is answered by its number alone, and nothing changes.
func TestApplyErrors(t *testing.T) {
	x := branch.New(object.Stock)
	for _, c := range []command.Command{add(0, "nut", 5), add(0, "nut", 5), take(0, "nut", 1), undo(0, 2), fork(0, 2), add(1, "bolt", 1), retain(1, 1)} {
		command.Apply(x, c)
	}
	for _, y := range []struct {
		c command.Command
		e api.Errno
	}{
		{command.Command{}, api.ErrKind},
		{command.Command{Kind: 6, B: 0}, api.ErrKind},
		{command.Command{Kind: -1, B: -1}, api.ErrKind},
		{take(0, "nut", 11), api.ErrShort},
		{take(0, "pin", 1), api.ErrNone},
		{add(0, "nut", 1<<40), api.ErrOver},
		{add(0, "nut", 0), api.ErrArg},
		{insert(0, 0, "a"), api.ErrKind},
		{command.Command{Kind: command.Do}, api.ErrKind},
		{add(2, "nut", 1), api.ErrBranch},
		{add(-1, "nut", 1), api.ErrBranch},
		{undo(2, 0), api.ErrBranch},
		{undo(0, 4), api.ErrFuture},
		{undo(0, -1), api.ErrFuture},
		{undo(1, 0), api.ErrPruned},
		{undo(0, 2), api.ErrUndone},
		{undo(0, 3), api.ErrFixed},
		{undo(0, 0), api.ErrConflict},
		{fork(2, 0), api.ErrBranch},
		{fork(0, 5), api.ErrFuture},
		{fork(1, 0), api.ErrPruned},
		{forward(2, 0), api.ErrBranch},
		{forward(0, 2), api.ErrBranch},
		{forward(0, 1), api.ErrDiverged},
		{forward(1, 0), api.ErrDiverged},
		{retain(2, 0), api.ErrBranch},
		{retain(0, 5), api.ErrFuture},
		{retain(1, 0), api.ErrPruned},
	} {
		answers(t, x, []command.Command{y.c}, []command.Answer{{Err: y.e}})
	}
	for x.Len() < 16 {
		command.Apply(x, fork(0, 0))
	}
	answers(t, x, []command.Command{fork(0, 0), fork(16, 0)}, []command.Answer{{Err: api.ErrFull}, {Err: api.ErrBranch}})
	answers(t, x, []command.Command{retain(0, 4), forward(2, 0)}, []command.Answer{{At: 4}, {Err: api.ErrPruned}})
}

// P22.1: behind any calls, against a second telling on another table.
func TestAnyCalls(t *testing.T) {
	r := rand.New(rand.NewSource(2222))
	had := map[string]int{}
	for round := range 150 {
		kind := kinds[round%3]
		x, y := branch.New(kind), branch.New(kind)
		longest := 1
		for range 80 {
			c := some(r, kind, x.Len()+1, longest+1)
			if r.Intn(20) == 0 {
				c.B, c.N = edges[r.Intn(len(edges))], edges[r.Intn(len(edges))]
			}
			if c.Kind == command.Retain && r.Intn(3) > 0 {
				continue
			}
			a, want := command.Apply(x, c), second(y, c)
			if a != want {
				t.Fatalf("%+v: %+v, want %+v", c, a, want)
			}
			if l, err := x.Line(c.B); err == nil {
				longest = max(longest, l.Len())
			}
			had[strconv.Itoa(c.Kind)+a.Err.Error()]++
		}
		if !slices.Equal(told(x), told(y)) {
			t.Fatalf("of round %d: %q, want %q", round, told(x), told(y))
		}
	}
	for _, word := range []string{"1ok", "2ok", "3ok", "4ok", "5ok", "1branch", "2conflict", "2undone", "2fixed", "2future", "2pruned", "3pruned", "4diverged", "4pruned"} {
		if had[word] < 5 {
			t.Errorf("%s only %d times", word, had[word])
		}
	}
}

// P22.1: commands' bytes are done one by one; what says nothing is answered by its error, and nothing is done.
func TestRun(t *testing.T) {
	x := branch.New(object.Stock)
	l := []string{
		add(0, "nut", 2).Text(), "", "\x06", undo(0, 0).Text() + "\x00", "\x00\x00\x00",
		undo(0, 0).Text(), undo(0, 0).Text(), fork(0, 2).Text(), "\x01\x00\x03\x01\x03nut\x00", add(1, "nut", 1).Text(),
	}
	given := slices.Clone(l)
	got := command.Run(x, l...)
	want := []string{"\x00\x00\x00", "\x01\x00\x00", "\x03\x00\x00", "\x02\x00\x00", "\x05\x00\x00", "\x00\x01\x00", "\x10\x00\x00", "\x00\x01\x00", "\x04\x00\x00", "\x00\x02\x00"}
	if !slices.Equal(got, want) {
		t.Errorf("Run: %q, want %q", got, want)
	}
	if !slices.Equal(l, given) || x.Len() != 2 {
		t.Errorf("handed in: %q, %d lines", l, x.Len())
	}
	for range 2 {
		was := told(x)
		if got := command.Run(x); len(got) != 0 || !slices.Equal(told(x), was) {
			t.Errorf("Run of nothing: %q", got)
		}
	}
	y := branch.New(object.Text)
	got = command.Run(y, insert(0, 0, "a\x00b").Text(), cut(0, 0, 2).Text())
	if !slices.Equal(got, []string{"\x00\x00\x00", "\x00\x01\x02a\x00"}) {
		t.Errorf("Run: %q", got)
	}
}

// P22.3: the same commands, on tables of one kind, have the same answers, in whatever lots they come.
func TestSame(t *testing.T) {
	r := rand.New(rand.NewSource(223))
	for round := range 60 {
		kind := kinds[round%3]
		var l []string
		for i := range 70 {
			s := some(r, kind, 3+i/20, 2+i/3).Text()
			if r.Intn(15) == 0 {
				b := []byte(s)
				b[r.Intn(len(b))] = byte(r.Intn(256))
				s = string(b)
			}
			l = append(l, s)
		}
		x, y, z := branch.New(kind), branch.New(kind), branch.New(kind)
		first := command.Run(x, l...)
		if again := command.Run(y, l...); !slices.Equal(again, first) || !slices.Equal(told(x), told(y)) {
			t.Fatalf("%q, and then %q", first, again)
		}
		for i, s := range l {
			c, err := command.Parse(s)
			a := command.Answer{Err: fault.Of(err)}
			if err == nil {
				a = command.Apply(z, c)
			}
			if a.Text() != first[i] || !goesBack(a) {
				t.Fatalf("%x alone: %+v, among others %x", s, a, first[i])
			}
		}
		if !slices.Equal(told(z), told(x)) {
			t.Fatal("one by one they make another table")
		}
	}
}

// goesBack: is an answer that was given what its bytes say?
func goesBack(a command.Answer) bool {
	b, err := command.ParseAnswer(a.Text())
	return err == nil && b == a
}

// P22.1: on a line that is longer than a log, any command can be taken back.
func TestLong(t *testing.T) {
	x := branch.New(object.Stock)
	for i := range 400 {
		name := "nut"
		if i == 255 || i == 256 || i == 380 {
			name = strconv.Itoa(i)
		}
		command.Apply(x, add(0, name, 1))
	}
	answers(t, x, []command.Command{undo(0, 256), undo(0, 380), undo(0, 255), undo(0, 380), undo(0, 401), undo(0, 257), fork(0, 403)},
		[]command.Answer{{At: 400}, {At: 401}, {At: 402}, {Err: api.ErrUndone}, {Err: api.ErrFixed}, {Err: api.ErrConflict}, {At: 1}})
	for b := range 2 {
		if l, _ := x.Line(b); l.Save() != "\x01\x03nut\x83\x0d" {
			t.Errorf("line %d: %x", b, l.Save())
		}
	}
}

// P1, K7: no call panics, whatever numbers and bytes come.
func TestNoPanic(t *testing.T) {
	r := rand.New(rand.NewSource(1))
	for _, n := range append([]int{0, 1, 2, 3, 4, 5, 6}, edges...) {
		for _, b := range append([]int{0, 1}, edges...) {
			x := branch.New(object.Stock)
			op := add(0, "nut", 1).Op
			op.Kind, op.Stock.N = n, b
			for _, c := range []command.Command{{Kind: n, B: b}, {Kind: n, N: b, A: b}, {Kind: command.Do, Op: op, B: b}, undo(b, n), fork(b, n), forward(b, n), retain(b, n), add(0, "nut", n)} {
				command.Apply(x, c)
				c.Check()
				command.Parse(c.Text())
				command.Run(x, c.Text())
			}
			command.ParseAnswer(command.Answer{Err: api.Errno(n), At: b}.Text())
		}
	}
	for range 20000 {
		s := make([]byte, r.Intn(12))
		for i := range s {
			s[i] = byte(r.Intn([]int{4, 256}[r.Intn(2)]))
		}
		command.Parse(string(s))
		command.ParseAnswer(string(s))
		command.Run(branch.New(kinds[len(s)%3]), string(s))
	}
	if a := command.Apply(branch.New(object.Text), command.Command{Kind: math.MaxInt}); a != (command.Answer{Err: api.ErrKind}) {
		t.Errorf("Apply: %+v", a)
	}
}
