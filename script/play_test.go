package script_test

import (
	"errors"
	"math"
	"math/rand"
	"reflect"
	"slices"
	"strings"
	"testing"

	"hindsight/api"
	"hindsight/command"
	"hindsight/engine"
	"hindsight/fault"
	"hindsight/object"
	"hindsight/proc"
	"hindsight/script"
	"hindsight/stock"
)

// start is a new engine, which may be.
func start(t *testing.T, kind int, p proc.Place) *engine.Engine {
	t.Helper()
	e, err := engine.New(kind, p)
	if err != nil {
		t.Fatalf("New of %+v: %v", p, err)
	}
	return e
}

// lines are what a script says.
func lines(t *testing.T, s string) []script.Line {
	t.Helper()
	l, err := script.Parse(s)
	if err != nil {
		t.Fatalf("Parse(%q): %v", s, err)
	}
	return l
}

// runs runs a script on an engine: what is answered.
func runs(t *testing.T, e *engine.Engine, s string) []string {
	t.Helper()
	l, err := script.Run(e, lines(t, s)...)
	if err != nil {
		t.Fatalf("Run of %q: %v", s, err)
	}
	return l
}

// plays plays a script: what is answered.
func plays(t *testing.T, kind int, p proc.Place, s string) []string {
	t.Helper()
	l, err := script.Play(kind, p, s)
	if err != nil {
		t.Fatalf("Play of %q: %v", s, err)
	}
	return l
}

// answersAre looks at answers.
func answersAre(t *testing.T, got []string, want ...string) {
	t.Helper()
	if !slices.Equal(got, want) {
		t.Fatalf("%q, want %q", got, want)
	}
}

// P26.1: picks are picked and asks wanted, line by line; what isn't answered yet is empty.
func TestRun(t *testing.T) {
	e := start(t, object.Stock, proc.Place{Procs: 2, Slots: 3})
	answersAre(t, runs(t, e, ""))
	answersAre(t, runs(t, e, "pick 0 1 0 1\n"))
	answersAre(t, runs(t, e, "0 add 0 nut 5\n1 asof 0 1\n"))
	if e.Left(0) != 1 || e.Left(1) != 1 {
		t.Fatalf("%d, %d left", e.Left(0), e.Left(1))
	}
	answersAre(t, runs(t, e, "pick 0"), "")
	answersAre(t, runs(t, e, "pick 0 0 0"), "\x00\x03\x00\x00\x00")
	answersAre(t, runs(t, e, "0 head 7\npick 0"), "\x00\x03\x00\x00\x00", "\x0f\x00")
	answersAre(t, runs(t, e, "pick 1\n0 take 0 nut 6\npick 0 0"), "\x00\x03\x00\x00\x00", "\x0f\x00", "", "")
	answersAre(t, runs(t, e, "pick 1"), "\x00\x03\x00\x00\x00", "\x0f\x00", "\x00\x06\x01\x03nut\x05", "")
	answersAre(t, runs(t, e, "pick 0 0 0"), "\x00\x03\x00\x00\x00", "\x0f\x00", "\x00\x06\x01\x03nut\x05", "\x0b\x03\x0b\x00\x00")
	answersAre(t, runs(t, e, ""), "\x00\x03\x00\x00\x00", "\x0f\x00", "\x00\x06\x01\x03nut\x05", "\x0b\x03\x0b\x00\x00")
}

// P26.1: a line that comes behind a pick isn't there yet when that is picked.
func TestRunLineByLine(t *testing.T) {
	p := proc.Place{Procs: 1, Slots: 2}
	answersAre(t, plays(t, object.Text, p, "pick 0 0 0 0\n0 insert 0 0 a\n"))
	answersAre(t, plays(t, object.Text, p, "0 insert 0 0 a\npick 0 0 0 0\n0 insert 0 0 b"), "\x00\x03\x00\x00\x00")
	answersAre(t, plays(t, object.Text, p, "0 asof 0 0\npick 0\n0 insert 0 0 a\npick 0 0\n0 head 3\npick 0 0 0\n"), "\x00\x01\x00", "\x00\x03\x00\x00\x00", "\x0f\x00")
}

// P26.1: whoever has nothing to do, or is no process, does nothing by a pick.
func TestRunPicksOfNobody(t *testing.T) {
	p := proc.Place{Procs: 2, Slots: 2}
	answersAre(t, plays(t, object.Text, p, "1 asof 0 0\npick 0 2 63 64 9999999 0\n"))
	answersAre(t, plays(t, object.Text, p, "1 asof 0 0\npick 0 2 63 64 9999999 1 7 0\n"), "\x00\x01\x00")
}

// P26.1, K1: lines by hand: a nil list of picks is an empty one; what has picks is a line of picks.
func TestRunLinesByHand(t *testing.T) {
	nut := shelve(0, stock.Op{Kind: stock.Add, Name: "nut", N: 1})
	for _, l := range [][]int{nil, {}} {
		e := start(t, object.Stock, proc.Place{Procs: 2, Slots: 2})
		got, err := script.Run(e, script.Line{Who: 1, Ask: nut, Picks: l}, script.Line{Picks: []int{1, 1, 1, 1, -1, math.MaxInt, math.MinInt}})
		if err != nil || len(got) != 1 || e.Left(1) != 0 {
			t.Fatalf("%q, %v, %d left", got, err, e.Left(1))
		}
		got, err = script.Run(e, script.Line{Who: 9, Picks: []int{0}}, script.Line{Who: 1, Ask: nut, Picks: []int{1}})
		if err != nil || len(got) != 1 || e.Left(1) != 0 {
			t.Fatalf("%q, %v, %d left", got, err, e.Left(1))
		}
		_, err = script.Run(e, script.Line{Who: 1, Picks: l})
		isFault(t, "Run", err, "line", 0, fault.In("want", 0, api.ErrKind))
	}
}

// P26.1: the first line that can't be wanted, by its place, behind which Want's error stands; those ahead of it were run.
func TestRunErrors(t *testing.T) {
	nut := script.Line{Ask: shelve(0, stock.Op{Kind: stock.Add, Name: "nut", N: 1})}
	picks := script.Line{Picks: []int{0, 0, 0, 0, 0}}
	for _, x := range []struct {
		wrong  script.Line
		behind error
	}{
		{script.Line{Who: 2, Ask: nut.Ask}, fault.In("want", 2, api.ErrRange)},
		{script.Line{Who: -1, Ask: nut.Ask}, fault.In("want", -1, api.ErrRange)},
		{script.Line{Who: math.MinInt, Ask: nut.Ask}, fault.In("want", math.MinInt, api.ErrRange)},
		{script.Line{Who: 64}, fault.In("want", 64, api.ErrRange)},
		{script.Line{}, fault.In("want", 0, api.ErrKind)},
		{script.Line{Who: 1}, fault.In("want", 0, api.ErrKind)},
		{script.Line{Ask: engine.Ask{Kind: engine.Change}}, fault.In("want", 0, api.ErrKind)},
		{script.Line{Ask: engine.Ask{Kind: engine.Change, C: nut.Ask.C, V: 1}}, fault.In("want", 0, api.ErrForm)},
		{script.Line{Ask: change(command.Command{Kind: command.Undo, N: -1})}, fault.In("want", 0, api.ErrArg)},
	} {
		for at, done := range []struct{ calls, left int }{{0, 0}, {0, 1}, {1, 0}, {1, 1}} {
			e := start(t, object.Stock, proc.Place{Procs: 2, Slots: 9})
			l := []script.Line{nut, picks, nut}
			l = append(l[:at:at], append([]script.Line{x.wrong, {Who: 7, Ask: nut.Ask}}, l[at:]...)...)
			got, err := script.Run(e, l...)
			isFault(t, "Run", err, "line", at, x.behind)
			if got != nil {
				t.Errorf("%q beside %v", got, err)
			}
			if len(e.Calls()) != done.calls || e.Left(0) != done.left {
				t.Errorf("behind a wrong line %d: %d calls, %d left", at, len(e.Calls()), e.Left(0))
			}
		}
	}
}

// K3: what is handed in stays, and what is answered is new.
func TestRunSharesNothing(t *testing.T) {
	l := lines(t, "0 insert 0 0 a\n0 asof 0 1\npick 0 0 0 0 0 0\npick 0\n")
	was := lines(t, "0 insert 0 0 a\n0 asof 0 1\npick 0 0 0 0 0 0\npick 0\n")
	e := start(t, object.Text, proc.Place{Procs: 1, Slots: 2})
	first, err := script.Run(e, l...)
	if err != nil || !reflect.DeepEqual(l, was) {
		t.Fatalf("%+v, %v", l, err)
	}
	kept := slices.Clone(first)
	clear(first)
	clear(l)
	answersAre(t, runs(t, e, ""), kept...)
	answersAre(t, runs(t, e, "0 asof 0 0\npick 0 0"), append(kept, "\x00\x01\x00")...)
}

// P26.1: a script that is played is run on an engine of its own.
func TestPlay(t *testing.T) {
	s := "0 insert 0 0 ab\n1 insert 0 0 c\n0 undo 0 0\n1 delete 0 0 1\n0 fork 0 1\n1 asof 0 1\n0 head 0\npick" + strings.Repeat(" 0 1 1 0 0", 30) + "\n1 leaf 0 0 1\npick 1 1 1 1 1 1"
	p := proc.Place{Procs: 2, Slots: 9}
	for _, kind := range []int{object.Text, object.Ledger, object.Stock} {
		got := plays(t, kind, p, s)
		if len(got) != 8 || slices.Contains(got, "") {
			t.Fatalf("%q", got)
		}
		answersAre(t, got, runs(t, start(t, kind, p), s)...)
	}
	answersAre(t, plays(t, object.Text, proc.Place{Procs: 1}, ""))
	answersAre(t, plays(t, object.Text, proc.Place{Procs: 1}, "0 insert 0 0 a\npick 0"), "\x07\x00")
}

// P26.1, K2: what can't be played: first what Parse says, then New, then Run: these errors themselves.
func TestPlayErrors(t *testing.T) {
	may := proc.Place{Procs: 2, Slots: 2}
	for _, x := range []struct {
		kind int
		p    proc.Place
		s    string
		want error
	}{
		{object.Text, may, strings.Repeat("pick 0\n", 201), fault.In("script", 201, api.ErrBig)},
		{0, proc.Place{}, strings.Repeat("pick\n", 201), fault.In("script", 201, api.ErrBig)},
		{0, proc.Place{}, "pick 0\n0 jump", fault.In("line", 1, fault.In("verb", 1, api.ErrKind))},
		{object.Text, may, "7 head 0\npick", fault.In("line", 1, fault.In("pick", 0, api.ErrForm))},
		{0, proc.Place{}, "7 head 0", fault.In("machine", 0, api.ErrArg)},
		{object.Text, proc.Place{Procs: 65, Slots: 2}, "", fault.In("machine", 65, api.ErrArg)},
		{object.Text, proc.Place{Procs: math.MinInt, Slots: -1}, "", fault.In("machine", math.MinInt, api.ErrArg)},
		{object.Text, proc.Place{Procs: 1, Slots: 257}, "7 head 0", fault.In("machine", 1, api.ErrArg)},
		{0, may, "7 head 0", fault.In("machine", 0, api.ErrKind)},
		{4, may, "", fault.In("machine", 4, api.ErrKind)},
		{math.MinInt, may, "pick 0", fault.In("machine", math.MinInt, api.ErrKind)},
		{object.Text, may, "2 head 0", fault.In("line", 0, fault.In("want", 2, api.ErrRange))},
		{object.Text, may, "1 head 0\npick 1\n9999999 head 0\n3 head 0\n", fault.In("line", 2, fault.In("want", 9999999, api.ErrRange))},
	} {
		l, err := script.Play(x.kind, x.p, x.s)
		if l != nil || !reflect.DeepEqual(err, x.want) {
			t.Errorf("Play of %d, %+v, %.30q: %q, %v, want %v", x.kind, x.p, x.s, l, err, x.want)
		}
	}
}

// P26.2, K4: a script that is played again, whatever was played between, is answered the same.
func TestSame(t *testing.T) {
	r := rand.New(rand.NewSource(262))
	for round := range 60 {
		kind, p := kinds[round%3], proc.Place{Procs: 1 + r.Intn(6), Slots: r.Intn(40)}
		s := someScript(r, kind, p.Procs, script.MaxLines)
		first := plays(t, kind, p, s)
		for range 4 {
			plays(t, kind, p, someScript(r, kind, p.Procs, 20))
			answersAre(t, plays(t, kind, p, s), first...)
		}
		x, other := "0 head 0\n"+s, proc.Place{Procs: p.Procs, Slots: 300}
		_, wrong := script.Play(kind, other, x)
		_, again := script.Play(kind, other, x)
		if wrong == nil || !reflect.DeepEqual(wrong, again) {
			t.Fatalf("%v, and then %v", wrong, again)
		}
	}
}

// P26.1, K7: whatever bytes a script has, and whatever is to play it, it is played or refused.
func TestAnything(t *testing.T) {
	r := rand.New(rand.NewSource(7))
	had := map[string]int{}
	for round := range 4000 {
		kind := kinds[round%3]
		b := []byte(someScript(r, kind, 1+r.Intn(3), 1+r.Intn(30)))
		for range r.Intn(3) * r.Intn(2) {
			b[r.Intn(len(b))] = byte(r.Intn(256))
		}
		p := proc.Place{Procs: 1 + r.Intn(4), Slots: r.Intn(9)}
		if r.Intn(9) == 0 {
			kind, p = r.Intn(9)-2, proc.Place{Procs: r.Intn(80) - 5, Slots: r.Intn(300) - 5}
		}
		l, err := script.Play(kind, p, string(b))
		if err != nil && l != nil {
			t.Fatalf("%q beside %v", l, err)
		}
		var f *fault.Fault
		if err != nil && !errors.As(err, &f) {
			t.Fatalf("%v isn't a fault", err)
		}
		had[fault.Path(err)]++
	}
	for _, word := range []string{"ok", "machine/arg", "machine/kind", "line/want/range", "line/words/form", "line/who/form", "line/verb/kind"} {
		if had[word] < 20 {
			t.Errorf("%s only %d times", word, had[word])
		}
	}
}
