package log_test

import (
	"errors"
	"math"
	"math/rand"
	"slices"
	"strings"
	"testing"

	"hindsight/api"
	"hindsight/cells"
	"hindsight/fault"
	"hindsight/log"
	"hindsight/proc"
)

// edges are numbers that nothing has.
var edges = []int{math.MinInt, math.MinInt + 1, -1 << 32, -2, -1, 1 << 41, math.MaxInt - 1, math.MaxInt}

func record(who, seq int, body string) proc.Record {
	return proc.Record{Who: who, Seq: seq, Body: body}
}

// memory is one of a place, whose first slots hold these.
func memory(p proc.Place, slots ...string) *cells.Memory {
	m := cells.New(p.Cells())
	for k, s := range slots {
		put(m, p, k, s)
	}
	return m
}

// put lets a slot hold bytes.
func put(m *cells.Memory, p proc.Place, k int, s string) {
	m.Do(0, cells.Access{Kind: cells.Write, Cell: p.Slot(k), New: s})
}

// isFault looks whether an error is the fault of a number, in a slot.
func isFault(t *testing.T, name string, err error, slot int, want api.Errno) {
	t.Helper()
	var f *fault.Fault
	if !errors.As(err, &f) || error(f) != err || *f != (fault.Fault{Step: "slot", At: slot, Err: want}) {
		t.Errorf("%s: %v, want slot %d: %v", name, err, slot, want)
	}
}

// looks looks, where nothing is wrong, at just these.
func looks(t *testing.T, v *log.View, m *cells.Memory, want ...proc.Record) {
	t.Helper()
	if l, err := v.Look(m); err != nil || !slices.Equal(l, want) {
		t.Errorf("Look: %+v, %v, want %+v", l, err, want)
	}
}

// fails looks up to a slot where something is wrong, at just these.
func fails(t *testing.T, v *log.View, m *cells.Memory, slot int, e api.Errno, want ...proc.Record) {
	t.Helper()
	l, err := v.Look(m)
	isFault(t, "Look", err, slot, e)
	if !slices.Equal(l, want) {
		t.Errorf("Look: %+v, want %+v", l, want)
	}
}

// has holds all that a view tells against the records that were looked at.
func has(t *testing.T, v *log.View, p proc.Place, l []proc.Record) {
	t.Helper()
	if v.Len() != len(l) || v.Full() != (len(l) == p.Slots) {
		t.Fatalf("Len %d, Full %v, want %d of %d", v.Len(), v.Full(), len(l), p.Slots)
	}
	for k, want := range l {
		if r, err := v.At(k); r != want || err != nil {
			t.Fatalf("At(%d): %+v, %v, want %+v", k, r, err, want)
		}
	}
	for _, k := range append([]int{len(l), len(l) + 1, p.Slots, p.Slots + 1}, edges...) {
		r, err := v.At(k)
		isFault(t, "At", err, k, api.ErrFuture)
		if r != (proc.Record{}) {
			t.Fatalf("At(%d): %+v", k, r)
		}
	}
	for _, who := range append([]int{0, 1, 2, 3, 4, 62, 63, 64}, edges...) {
		hasOf(t, v, who, l)
	}
}

// hasOf is what of that is one process's.
func hasOf(t *testing.T, v *log.View, who int, l []proc.Record) {
	t.Helper()
	last, slots, at := 0, []int{}, map[int]int{}
	for k, r := range l {
		if r.Who == who {
			last = max(last, r.Seq)
			slots = append(slots, k)
			at[r.Seq] = k
		}
	}
	if got := v.Of(who); v.Last(who) != last || !slices.Equal(got, slots) {
		t.Fatalf("of %d: Last %d, Of %v, want %d, %v", who, v.Last(who), got, last, slots)
	}
	seqs := append([]int{0, 1, 2, 3, 4, 5, last, last + 1}, edges...)
	for _, r := range l {
		seqs = append(seqs, r.Seq)
	}
	for _, seq := range seqs {
		want, ok := at[seq]
		if !ok {
			want = -1
		}
		if got := v.Find(who, seq); got != want {
			t.Fatalf("Find(%d, %d): %d, want %d", who, seq, got, want)
		}
	}
}

// P18.1: the chapter's example.
func TestExample(t *testing.T) {
	p := proc.Place{Procs: 2, Slots: 3}
	v := log.New(p)
	looks(t, v, memory(p, record(0, 1, "a").Text(), "", record(1, 1, "b").Text()), record(0, 1, "a"))
	has(t, v, p, []proc.Record{record(0, 1, "a")})
}

// P18.1: nothing was looked at, at first, and where nothing is decided.
func TestNew(t *testing.T) {
	for _, p := range []proc.Place{{Procs: 1, Slots: 1}, {Procs: 3, Slots: 5}, {Procs: 64, Slots: 256}} {
		v, m := log.New(p), memory(p)
		has(t, v, p, nil)
		for who := range p.Procs { // wishes are no slots
			m.Do(who, cells.Access{Kind: cells.Write, Cell: p.Wish(who), New: record(who, 1, "wish").Text()})
		}
		looks(t, v, m)
		has(t, v, p, nil)
	}
}

// P18.1: a view of no slots is full at once; one without is full, as the last one was looked at.
func TestFull(t *testing.T) {
	p := proc.Place{Procs: 2}
	v := log.New(p)
	has(t, v, p, nil)
	looks(t, v, memory(p))
	has(t, v, p, nil)
	p.Slots = 3
	v = log.New(p)
	m := memory(p)
	var l []proc.Record
	for k := range 3 {
		r := record(1, 4+k, "x")
		l = append(l, r)
		put(m, p, k, r.Text())
		looks(t, v, m, r)
		has(t, v, p, l)
	}
	looks(t, v, m)
	has(t, v, p, l)
}

// P18.1: cells behind the last slot are none of the place's.
func TestLooksAtNoMore(t *testing.T) {
	p := proc.Place{Procs: 1, Slots: 2}
	m := cells.New(4)
	for cell := range 4 {
		m.Do(0, cells.Access{Kind: cells.Write, Cell: cell, New: record(0, 1+cell, "").Text()})
	}
	v := log.New(p)
	looks(t, v, m, record(0, 2, ""), record(0, 3, ""))
	looks(t, v, m)
	has(t, v, p, []proc.Record{record(0, 2, ""), record(0, 3, "")})
}

// P18.1: what is decided since is looked at by the next Look, just once.
func TestLook(t *testing.T) {
	p := proc.Place{Procs: 3, Slots: 6}
	l := []proc.Record{record(2, 1, "a"), record(0, 1, ""), record(2, 2, "a"), record(1, 7, "b"), record(0, 1<<40, strings.Repeat("c", 1024))}
	v, m := log.New(p), memory(p)
	from := 0
	for _, to := range []int{0, 1, 1, 3, 5, 5} {
		for k := from; k < to; k++ {
			put(m, p, k, l[k].Text())
		}
		looks(t, v, m, l[from:to]...)
		has(t, v, p, l[:to])
		from = to
	}
}

// P18.1: a slot that is empty is the end, also when some behind it aren't.
func TestGap(t *testing.T) {
	p := proc.Place{Procs: 1, Slots: 4}
	l := []proc.Record{record(0, 1, "a"), record(0, 2, "b"), record(0, 3, "c"), record(0, 4, "d")}
	v := log.New(p)
	m := memory(p, l[0].Text(), "", l[2].Text(), "junk")
	looks(t, v, m, l[0])
	looks(t, v, m)
	has(t, v, p, l[:1])
	put(m, p, 1, l[1].Text())
	fails(t, v, m, 3, api.ErrBig, l[1], l[2])
	put(m, p, 3, l[3].Text())
	looks(t, v, m, l[3])
	has(t, v, p, l)
}

// P18.1, K2: what a slot may not hold, and of several errors the first one; that slot wasn't looked at, and those ahead of it were.
func TestFaults(t *testing.T) {
	first := []proc.Record{record(0, 5, "a"), record(1, 2, "b"), record(0, 7, "c")}
	for _, x := range []struct {
		s    string
		want api.Errno
	}{
		{"\x00", api.ErrEnd}, {"\x01\x03", api.ErrEnd}, {"\x01\x03\x02x", api.ErrEnd},
		{"\x80\x01\x00", api.ErrForm}, {record(1, 3, "x").Text() + "x", api.ErrForm},
		{"junk", api.ErrBig}, {record(64, 3, "x").Text(), api.ErrBig}, {record(1, 1<<40+1, "x").Text(), api.ErrBig}, {record(1, 3, strings.Repeat("x", 1025)).Text(), api.ErrBig},
		{record(2, 1, "x").Text() + "x", api.ErrForm}, {record(0, 1, "x").Text() + "x", api.ErrForm}, // ahead of whose it is, and of its Seq
		{record(2, 3, "x").Text(), api.ErrRange}, {record(63, 3, "x").Text(), api.ErrRange}, {record(2, 0, "x").Text(), api.ErrRange},
		{record(0, 7, "c").Text(), api.ErrThere}, {record(0, 7, "x").Text(), api.ErrThere}, {record(0, 6, "x").Text(), api.ErrThere}, {record(0, 5, "a").Text(), api.ErrThere},
		{record(0, 0, "x").Text(), api.ErrThere}, {record(1, 2, "x").Text(), api.ErrThere}, {record(1, 1, "x").Text(), api.ErrThere}, {record(1, 0, "").Text(), api.ErrThere},
	} {
		p := proc.Place{Procs: 2, Slots: 6}
		v := log.New(p)
		m := memory(p, first[0].Text(), first[1].Text(), first[2].Text(), x.s, record(1, 9, "behind").Text())
		fails(t, v, m, 3, x.want, first...)
		has(t, v, p, first)
		for range 2 {
			fails(t, v, m, 3, x.want)
		}
		has(t, v, p, first)
		put(m, p, 3, record(0, 8, "right").Text())
		looks(t, v, m, record(0, 8, "right"), record(1, 9, "behind"))
		has(t, v, p, append(slices.Clone(first), record(0, 8, "right"), record(1, 9, "behind")))
	}
}

// P18.1: a process that has no record yet begins above 0, in the first slot too.
func TestFirstRecord(t *testing.T) {
	for _, x := range []struct {
		r    proc.Record
		want api.Errno
	}{{record(0, 0, ""), api.ErrThere}, {record(1, 1, ""), api.ErrRange}, {record(1, 0, ""), api.ErrRange}} {
		p := proc.Place{Procs: 1, Slots: 1}
		v := log.New(p)
		fails(t, v, memory(p, x.r.Text()), 0, x.want)
		has(t, v, p, nil)
		looks(t, v, memory(p, record(0, 1, "").Text()), record(0, 1, ""))
	}
}

// P18.1: as many processes as a place has, and no more.
func TestProcesses(t *testing.T) {
	for _, procs := range []int{1, 2, 63, 64} {
		p := proc.Place{Procs: procs, Slots: 70}
		v, m := log.New(p), memory(p)
		var l []proc.Record
		for who := range procs {
			r := record(procs-1-who, 3, "x")
			l = append(l, r)
			put(m, p, who, r.Text())
		}
		looks(t, v, m, l...)
		has(t, v, p, l)
		put(m, p, procs, record(procs, 1, "x").Text())
		if want := api.ErrRange; procs < api.MaxProcs {
			fails(t, v, m, procs, want)
		} else {
			fails(t, v, m, procs, api.ErrBig)
		}
	}
}

// P18.1: a look is no access.
func TestNoAccess(t *testing.T) {
	p := proc.Place{Procs: 2, Slots: 3}
	m := memory(p, record(1, 1, "a").Text())
	before := m.All()
	v := log.New(p)
	looks(t, v, m, record(1, 1, "a"))
	looks(t, v, m)
	if m.All() != before || m.Count(0) != before || m.Count(1) != 0 || m.Look(p.Slot(0)) != record(1, 1, "a").Text() {
		t.Errorf("%d accesses, then %d", before, m.All())
	}
}

// P18.1, K3: what is answered is new.
func TestSharesNothing(t *testing.T) {
	p := proc.Place{Procs: 1, Slots: 9}
	v, m := log.New(p), memory(p)
	var l, copied []proc.Record
	var answers [][]proc.Record
	for k := range 9 {
		r := record(0, k+1, "x")
		l = append(l, r)
		put(m, p, k, r.Text())
		if k%3 != 2 {
			continue
		}
		got, err := v.Look(m)
		if len(got) != 3 || err != nil {
			t.Fatalf("Look: %+v, %v", got, err)
		}
		copied = append(copied, got...)
		got[0].Body = "other"
		got[2].Who = 7
		answers = append(answers, append(got, record(8, 8, "more")))
	}
	if !slices.Equal(copied, l) {
		t.Errorf("Look: %+v", copied)
	}
	slots := v.Of(0)
	slots[0] = 5
	_ = append(slots[:1], 6)
	has(t, v, p, l)
	for i, a := range answers {
		if a[0].Body != "other" || a[1] != l[3*i+1] || a[2].Who != 7 || a[3].Who != 8 {
			t.Errorf("an answer has changed: %+v", a)
		}
	}
}

// P18.1: each view has records of its own.
func TestNewIsItsOwn(t *testing.T) {
	p := proc.Place{Procs: 1, Slots: 2}
	m := memory(p, record(0, 1, "a").Text())
	v, other := log.New(p), log.New(p)
	looks(t, v, m, record(0, 1, "a"))
	has(t, other, p, nil)
	put(m, p, 1, record(0, 2, "b").Text())
	looks(t, other, m, record(0, 1, "a"), record(0, 2, "b"))
	has(t, v, p, []proc.Record{record(0, 1, "a")})
	looks(t, v, m, record(0, 2, "b"))
}

// P18.2: a slot that was looked at stays, as it was.
func TestStays(t *testing.T) {
	p := proc.Place{Procs: 1, Slots: 3}
	l := []proc.Record{record(0, 1, "a"), record(0, 2, "b")}
	m := memory(p, l[0].Text(), l[1].Text())
	v := log.New(p)
	looks(t, v, m, l...)
	put(m, p, 0, "junk")
	put(m, p, 1, "")
	looks(t, v, m)
	has(t, v, p, l)
}

// model is what a view is held against: the records, by the document's words.
type model struct {
	p proc.Place
	l []proc.Record
}

// look is what Look answers: the records, and what is wrong with the slot behind them.
func (w *model) look(m *cells.Memory) ([]proc.Record, api.Errno) {
	var l []proc.Record
	for k := len(w.l); k < w.p.Slots; k++ {
		s := m.Look(w.p.Procs + k)
		if s == "" {
			break
		}
		r, e := proc.Parse(s)
		if e != api.OK {
			return l, e
		}
		if r.Who >= w.p.Procs {
			return l, api.ErrRange
		}
		last := 0
		for _, x := range w.l {
			if x.Who == r.Who && x.Seq > last {
				last = x.Seq
			}
		}
		if r.Seq <= last {
			return l, api.ErrThere
		}
		l, w.l = append(l, r), append(w.l, r)
	}
	return l, api.OK
}

// anything is bytes that a slot may hold.
func anything(r *rand.Rand) string {
	return []string{"", "junk", "\x00\x01", record(r.Intn(66), 1+r.Intn(9), "").Text(), record(r.Intn(4), r.Intn(9), "body").Text(), record(r.Intn(4), 9+r.Intn(99), "other").Text()}[r.Intn(6)]
}

// P18.1: behind any calls, whatever slots hold.
func TestAnyCalls(t *testing.T) {
	r := rand.New(rand.NewSource(24))
	for range 600 {
		p := proc.Place{Procs: 1 + r.Intn(4), Slots: r.Intn(9)}
		m, v, w := memory(p), log.New(p), &model{p: p}
		for range 40 {
			for range r.Intn(3) {
				// Mostly the first slot that wasn't looked at, so that a view goes on.
				k := len(w.l)
				if r.Intn(2) == 0 {
					k = r.Intn(p.Slots + 1)
				}
				put(m, p, k, anything(r))
			}
			want, e := w.look(m)
			if e == api.OK {
				looks(t, v, m, want...)
			} else {
				fails(t, v, m, len(w.l), e, want...)
			}
			if t.Failed() {
				t.Fatalf("%+v", p)
			}
		}
		has(t, v, p, w.l)
	}
}

// P18.2: where processes alone used a memory, in any order of steps, a look at any time finds no fault, and what it found stays.
func TestProcessesAlone(t *testing.T) {
	r := rand.New(rand.NewSource(25))
	for range 600 {
		p := proc.Place{Procs: 1 + r.Intn(6), Slots: r.Intn(20)}
		m, early, v := memory(p), log.New(p), log.New(p)
		procs := make([]*proc.Proc, p.Procs)
		for who := range procs {
			procs[who] = proc.New(p, who)
		}
		var l []proc.Record
		for range r.Intn(400) {
			x := procs[r.Intn(p.Procs)]
			if x.Idle() && r.Intn(4) == 0 {
				x.Head()
			} else if x.Idle() {
				x.Begin(strings.Repeat("b", r.Intn(3)))
			}
			end := x.Step(m)
			if r.Intn(5) == 0 || end.Done {
				looked, err := early.Look(m)
				if err != nil {
					t.Fatalf("%+v: %v", p, err)
				}
				l = append(l, looked...)
				if decided(m, p) != early.Len() || end.Full && !early.Full() {
					t.Fatalf("%+v: %d of %d were looked at", p, early.Len(), decided(m, p))
				}
			}
		}
		has(t, early, p, l)
		looks(t, early, m, rest(m, p, len(l))...)
		looks(t, v, m, rest(m, p, 0)...)
		for k, want := range l {
			if got, err := v.At(k); got != want || err != nil {
				t.Fatalf("%+v: slot %d: %+v, %v, want %+v", p, k, got, err, want)
			}
		}
	}
}

// decided is how many slots hold something.
func decided(m *cells.Memory, p proc.Place) int {
	n := 0
	for k := range p.Slots {
		if m.Look(p.Slot(k)) != "" {
			n++
		}
	}
	return n
}

// rest is the records of the slots that hold something, from one on.
func rest(m *cells.Memory, p proc.Place, from int) []proc.Record {
	var l []proc.Record
	for k := from; k < decided(m, p); k++ {
		r, _ := proc.Parse(m.Look(p.Slot(k)))
		l = append(l, r)
	}
	return l
}

// P18.2: a process's End tells the slot in which a view finds its record.
func TestFindsWhatEnded(t *testing.T) {
	p := proc.Place{Procs: 3, Slots: 10}
	m, v := memory(p), log.New(p)
	a, b := proc.New(p, 0), proc.New(p, 1)
	b.Begin("other")
	b.Step(m)
	for v.Len() < p.Slots {
		if a.Idle() {
			a.Begin("mine")
		}
		end := a.Step(m)
		if _, err := v.Look(m); err != nil {
			t.Fatal(err)
		}
		if end.Done && !end.Full && (v.Find(0, a.Seq()) != end.Slot || v.Last(0) != a.Seq()) {
			t.Errorf("%+v: Find %d, Last %d of %d", end, v.Find(0, a.Seq()), v.Last(0), a.Seq())
		}
	}
	if v.Find(1, 1) != 1 || !slices.Equal(v.Of(1), []int{1}) || !slices.Equal(v.Of(0), []int{0, 2, 3, 4, 5, 6, 7, 8, 9}) || len(v.Of(2)) != 0 {
		t.Errorf("Find %d, Of %v, %v, %v", v.Find(1, 1), v.Of(0), v.Of(1), v.Of(2))
	}
}

// P18.1: as many slots as there may be.
func TestMany(t *testing.T) {
	p := proc.Place{Procs: api.MaxProcs, Slots: api.MaxLog}
	v, m := log.New(p), memory(p)
	var l []proc.Record
	for k := range p.Slots {
		r := record(k*k%p.Procs, k+1, strings.Repeat("b", k*4))
		l = append(l, r)
		put(m, p, k, r.Text())
	}
	looks(t, v, m, l...)
	has(t, v, p, l)
}

// P1, K7: also of places that may not be nothing panics, and each call ends.
func TestNoPanic(t *testing.T) {
	numbers := append([]int{0, 1, 2, 65}, edges...)
	for _, procs := range numbers {
		for _, slots := range numbers {
			v := log.New(proc.Place{Procs: procs, Slots: slots})
			for _, n := range []int{0, 1, 9} {
				m := cells.New(n)
				for cell := range n {
					m.Do(0, cells.Access{Kind: cells.Write, Cell: cell, New: record(0, 1+cell, "").Text()})
				}
				v.Look(m)
				v.Len()
				v.Full()
				for _, k := range numbers {
					v.At(k)
					v.Last(k)
					v.Find(k, k)
					v.Of(k)
				}
			}
		}
	}
}
