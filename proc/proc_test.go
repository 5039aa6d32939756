package proc_test

import (
	"iter"
	"math"
	"math/rand"
	"slices"
	"strings"
	"testing"

	"hindsight/api"
	"hindsight/cells"
	"hindsight/proc"
	"hindsight/wire"
)

// edges are numbers that nothing has.
var edges = []int{math.MinInt, math.MinInt + 1, -1 << 32, -2, -1, 1 << 41, math.MaxInt - 1, math.MaxInt}

// bytesOf is a record's bytes, by the document's words.
func bytesOf(who, seq int, body string) string {
	var w wire.Writer
	return w.Num(uint64(who)).Num(uint64(seq)).Str(body).Text()
}

// P16.1: the chapter's numbers, and what of a record is below 0.
func TestText(t *testing.T) {
	if proc.MostBody != 1024 {
		t.Errorf("MostBody: %d", proc.MostBody)
	}
	for _, x := range []struct {
		r    proc.Record
		want string
	}{
		{proc.Record{}, "\x00\x00\x00"},
		{proc.Record{Who: 3, Seq: 300, Body: "x"}, "\x03\x82\x2c\x01x"},
		{proc.Record{Who: 63, Seq: 127, Body: "\x00\xff"}, "\x3f\x7f\x02\x00\xff"},
		{proc.Record{Who: 64, Seq: 128}, "\x40\x81\x00\x00"},
		{proc.Record{Who: -1, Seq: 1, Body: "a"}, "\x00\x01\x01a"},
		{proc.Record{Who: 1, Seq: -1, Body: "a"}, "\x01\x00\x01a"},
		{proc.Record{Who: math.MinInt, Seq: math.MinInt}, "\x00\x00\x00"},
		{proc.Record{Who: math.MaxInt, Seq: math.MaxInt}, bytesOf(math.MaxInt, math.MaxInt, "")},
		{proc.Record{Who: 1, Seq: 2, Body: strings.Repeat("b", 5000)}, "\x01\x02\xa7\x08" + strings.Repeat("b", 5000)},
	} {
		if got := x.r.Text(); got != x.want {
			t.Errorf("Text of %d, %d: %x, want %x", x.r.Who, x.r.Seq, got, x.want)
		}
	}
}

// P16.1: there and back, up to each limit.
func TestParse(t *testing.T) {
	for _, who := range []int{0, 1, 62, 63} {
		for _, seq := range []int{0, 1, 127, 128, 300, 1<<40 - 1, 1 << 40} {
			for _, body := range []string{"", "x", "\x00", bytesOf(1, 2, "in"), strings.Repeat("b", 1023), strings.Repeat("\xff", 1024)} {
				r := proc.Record{Who: who, Seq: seq, Body: body}
				if got, e := proc.Parse(r.Text()); got != r || e != api.OK {
					t.Errorf("Parse of %d, %d and %d bytes: %d, %d, %v", who, seq, len(body), got.Who, got.Seq, e)
				}
			}
		}
	}
}

// P16.1, K2: bytes that are no record, and of several errors the first one.
func TestParseErrors(t *testing.T) {
	long := strings.Repeat("b", 1025)
	for _, x := range []struct {
		s    string
		want api.Errno
	}{
		{"", api.ErrEnd},
		{"\x03", api.ErrEnd},
		{"\x03\x82", api.ErrEnd},
		{"\x03\x82\x2c", api.ErrEnd},
		{"\x03\x82\x2c\x01", api.ErrEnd},
		{"\x03\x82\x2c\x02x", api.ErrEnd},
		{"\x03\x82\x2c\x01xy", api.ErrForm},
		{"\x03\x82\x2c\x00\x00", api.ErrForm},
		{"\x80\x03\x01\x00", api.ErrForm},
		{"\x03\x80\x01\x00", api.ErrForm},
		{"\x03\x01\x80\x00", api.ErrForm},
		{bytesOf(64, 1, ""), api.ErrBig},
		{bytesOf(math.MaxInt, 1, ""), api.ErrBig},
		{bytesOf(1, 1<<40+1, ""), api.ErrBig},
		{bytesOf(1, math.MaxInt, ""), api.ErrBig},
		{bytesOf(1, 1, long), api.ErrBig},
		{bytesOf(1, 1, long) + "x", api.ErrBig},
		{bytesOf(64, 1, "") + "x", api.ErrBig},
		{"\x40", api.ErrBig},
		{"\x01\x01\x88\x01", api.ErrBig},
		{"\x01\x01\x88\x00", api.ErrEnd},
	} {
		if r, e := proc.Parse(x.s); r != (proc.Record{}) || e != x.want {
			t.Errorf("Parse of %x: %+v, %v, want %v", x.s, r, e, x.want)
		}
	}
	whole := bytesOf(63, 1<<40, "body")
	for n := range whole {
		if r, e := proc.Parse(whole[:n]); r != (proc.Record{}) || e != api.ErrEnd {
			t.Errorf("Parse of the first %d bytes: %+v, %v", n, r, e)
		}
	}
}

// P16.1: what is a record has that record's bytes alone.
func TestParseOneSpelling(t *testing.T) {
	r := rand.New(rand.NewSource(17))
	for range 200000 {
		b := make([]byte, r.Intn(9))
		for i := range b {
			if b[i] = byte(r.Intn(4)); r.Intn(4) == 0 {
				b[i] = byte(r.Intn(256))
			}
		}
		x, e := proc.Parse(string(b))
		if e == api.OK && x.Text() != string(b) || e != api.OK && x != (proc.Record{}) {
			t.Fatalf("Parse of %x: %+v, %v", b, x, e)
		}
	}
}

// P16.1: which places may be.
func TestCheck(t *testing.T) {
	for _, x := range []struct {
		p    proc.Place
		want api.Errno
	}{
		{proc.Place{Procs: 1}, api.OK}, {proc.Place{Procs: 64}, api.OK}, {proc.Place{Procs: 64, Slots: 256}, api.OK}, {proc.Place{Procs: 1, Slots: 256}, api.OK}, {proc.Place{Procs: 2, Slots: 3}, api.OK},
		{proc.Place{}, api.ErrArg}, {proc.Place{Slots: 1}, api.ErrArg}, {proc.Place{Procs: -1, Slots: 1}, api.ErrArg}, {proc.Place{Procs: 65}, api.ErrArg}, {proc.Place{Procs: 65, Slots: 256}, api.ErrArg},
		{proc.Place{Procs: 1, Slots: -1}, api.ErrArg}, {proc.Place{Procs: 1, Slots: 257}, api.ErrArg}, {proc.Place{Procs: 64, Slots: 257}, api.ErrArg},
		{proc.Place{Procs: math.MinInt, Slots: 1}, api.ErrArg}, {proc.Place{Procs: math.MaxInt, Slots: 1}, api.ErrArg}, {proc.Place{Procs: 1, Slots: math.MinInt}, api.ErrArg}, {proc.Place{Procs: 1, Slots: math.MaxInt}, api.ErrArg},
	} {
		if e := x.p.Check(); e != x.want {
			t.Errorf("Check of %+v: %v, want %v", x.p, e, x.want)
		}
	}
}

// P16.1: first the wishes, then the slots, and no cell else.
func TestCells(t *testing.T) {
	for procs := 1; procs <= api.MaxProcs; procs++ {
		for _, slots := range []int{0, 1, 2, 100, 255, 256} {
			p := proc.Place{Procs: procs, Slots: slots}
			if p.Check() != api.OK || p.Cells() != procs+slots || p.Bound() != 2+3*slots {
				t.Fatalf("%+v: %v, %d cells, bound %d", p, p.Check(), p.Cells(), p.Bound())
			}
			for who := range procs {
				if p.Wish(who) != who {
					t.Fatalf("Wish(%d) of %+v: %d", who, p, p.Wish(who))
				}
			}
			for k := range slots {
				if p.Slot(k) != procs+k {
					t.Fatalf("Slot(%d) of %+v: %d", k, p, p.Slot(k))
				}
			}
		}
	}
}

// steps steps a process till it is done: how that ended, and how many steps it took.
func steps(t *testing.T, x *proc.Proc, m *cells.Memory) (proc.End, int) {
	t.Helper()
	for n := 1; n <= 2+3*api.MaxLog; n++ {
		if e := x.Step(m); e != (proc.End{}) {
			return e, n
		}
	}
	t.Fatal("a process is never done")
	return proc.End{}, 0
}

// begins lets a process begin, which it can.
func begins(t *testing.T, x *proc.Proc, body string) {
	t.Helper()
	if e := x.Begin(body); e != api.OK {
		t.Fatalf("Begin: %v", e)
	}
}

// decides lets a process decide a record, which ends so, in so many steps.
func decides(t *testing.T, x *proc.Proc, m *cells.Memory, body string, want proc.End, n int) {
	t.Helper()
	begins(t, x, body)
	if e, took := steps(t, x, m); e != want || took != n {
		t.Errorf("%q: %+v in %d steps, want %+v in %d", body, e, took, want, n)
	}
	if !x.Idle() {
		t.Errorf("%q: not idle", body)
	}
}

// heads lets a process read the head, likewise.
func heads(t *testing.T, x *proc.Proc, m *cells.Memory, want, n int) {
	t.Helper()
	if e := x.Head(); e != api.OK {
		t.Fatalf("Head: %v", e)
	}
	if e, took := steps(t, x, m); e != (proc.End{Done: true, Slot: want}) || took != n {
		t.Errorf("Head: %+v in %d steps, want %d in %d", e, took, want, n)
	}
	if !x.Idle() || x.At() != want {
		t.Errorf("Head: idle %v, at %d", x.Idle(), x.At())
	}
}

// in is that something was decided in a slot.
func in(slot int) proc.End {
	return proc.End{Done: true, Slot: slot}
}

// full is that the log is.
var full = proc.End{Done: true, Full: true}

// P16.1: the chapter's example, an access at a time.
func TestExample(t *testing.T) {
	p := proc.Place{Procs: 1, Slots: 2}
	m := cells.New(p.Cells())
	x := proc.New(p, 0)
	begins(t, x, "a")
	own := bytesOf(0, 1, "a")
	for i, want := range []struct {
		e          proc.End
		wish, slot string
		at         int
	}{{wish: own}, {wish: own}, {wish: own}, {proc.End{Done: true}, own, own, 1}} {
		e := x.Step(m)
		if e != want.e || m.Look(0) != want.wish || m.Look(1) != want.slot || m.Look(2) != "" || x.At() != want.at || x.Idle() != want.e.Done || m.Count(0) != i+1 {
			t.Errorf("step %d: %+v, %x, %x, at %d, idle %v", i, e, m.Look(0), m.Look(1), x.At(), x.Idle())
		}
	}
}

// P16.1: nothing was begun; a step of what is idle is no access.
func TestIdle(t *testing.T) {
	p := proc.Place{Procs: 3, Slots: 2}
	m := cells.New(p.Cells())
	x := proc.New(p, 2)
	for range 3 {
		if e := x.Step(m); e != (proc.End{}) || !x.Idle() || x.Seq() != 0 || x.At() != 0 {
			t.Errorf("%+v, %v, %d, %d", e, x.Idle(), x.Seq(), x.At())
		}
	}
	if m.All() != 0 {
		t.Errorf("%d accesses", m.All())
	}
	decides(t, x, m, "a", in(0), 4)
	before := m.All()
	if e := x.Step(m); e != (proc.End{}) || m.All() != before || x.At() != 1 || x.Seq() != 1 {
		t.Errorf("behind its end: %+v", e)
	}
}

// P16.1, K2: who isn't idle is busy, also with too many bytes; what can't begin changes nothing.
func TestBegin(t *testing.T) {
	p := proc.Place{Procs: 1, Slots: 4}
	m := cells.New(p.Cells())
	x := proc.New(p, 0)
	most, big := strings.Repeat("b", 1024), strings.Repeat("b", 1025)
	refuses := func(name string, got, want api.Errno, seq int, idle bool) {
		t.Helper()
		if got != want || x.Seq() != seq || x.Idle() != idle {
			t.Errorf("%s: %v, Seq %d, idle %v, want %v, %d, %v", name, got, x.Seq(), x.Idle(), want, seq, idle)
		}
	}
	refuses("big", x.Begin(big), api.ErrBig, 0, true)
	if e := x.Step(m); e != (proc.End{}) || m.All() != 0 {
		t.Errorf("behind big: %+v", e)
	}
	refuses("most", x.Begin(most), api.OK, 1, false)
	for range 4 {
		refuses("busy", x.Begin("b"), api.ErrBusy, 1, false)
		refuses("busy, and big", x.Begin(big), api.ErrBusy, 1, false)
		refuses("busy, head", x.Head(), api.ErrBusy, 1, false)
		x.Step(m)
	}
	if m.Look(p.Slot(0)) != bytesOf(0, 1, most) {
		t.Error("another record is decided")
	}
	refuses("head", x.Head(), api.OK, 1, false)
	refuses("busy with the head", x.Begin("b"), api.ErrBusy, 1, false)
	refuses("busy with the head, and big", x.Begin(big), api.ErrBusy, 1, false)
	refuses("busy with the head, head", x.Head(), api.ErrBusy, 1, false)
	if e := x.Step(m); e != in(1) {
		t.Errorf("Head: %+v", e)
	}
	decides(t, x, m, "", in(1), 4)
	if x.Seq() != 2 || m.Look(p.Slot(1)) != bytesOf(0, 2, "") {
		t.Errorf("Seq %d, %x", x.Seq(), m.Look(p.Slot(1)))
	}
}

// P16.1: one behind the other, till the log is full; each has a Seq, also those for which there is no slot.
func TestFull(t *testing.T) {
	p := proc.Place{Procs: 1, Slots: 3}
	m := cells.New(p.Cells())
	x := proc.New(p, 0)
	for k := range 3 {
		decides(t, x, m, "a", in(k), 4)
	}
	for i := range 3 {
		decides(t, x, m, "late", full, 1)
		if x.Seq() != 4+i || x.At() != 3 || m.Look(0) != bytesOf(0, 4+i, "late") {
			t.Errorf("Seq %d, at %d, wish %x", x.Seq(), x.At(), m.Look(0))
		}
	}
	for k := range 3 {
		if m.Look(p.Slot(k)) != bytesOf(0, k+1, "a") || m.Swaps(p.Slot(k)) != 1 {
			t.Errorf("slot %d: %x", k, m.Look(p.Slot(k)))
		}
	}
}

// P16.1: a log without slots is full at once, behind the wish; its head is read at its wish.
func TestNoSlots(t *testing.T) {
	p := proc.Place{Procs: 2}
	m := cells.New(p.Cells())
	x := proc.New(p, 1)
	heads(t, x, m, 0, 1)
	decides(t, x, m, "a", full, 1)
	heads(t, x, m, 0, 1)
	if m.Look(0) != "" || m.Look(1) != bytesOf(1, 1, "a") || m.Count(1) != 3 || m.All() != 3 {
		t.Errorf("%x, %x, %d", m.Look(0), m.Look(1), m.All())
	}
}

// P16.1: full, as the last slot goes to another one, by a look at it, or by a Swap that comes too late.
func TestFullBehindOthers(t *testing.T) {
	p := proc.Place{Procs: 2, Slots: 1}
	other := bytesOf(0, 1, "other")
	for late := range 3 {
		m := cells.New(p.Cells())
		x := proc.New(p, 1)
		begins(t, x, "mine")
		for range 1 + late {
			if e := x.Step(m); e != (proc.End{}) {
				t.Fatalf("%+v", e)
			}
		}
		m.Do(0, cells.Access{Kind: cells.Swap, Cell: p.Slot(0), New: other})
		e, n := steps(t, x, m)
		if want := []int{1, 2, 1}[late]; e != full || n != want || x.At() != 1 || m.Look(p.Slot(0)) != other {
			t.Errorf("%d steps ahead of that: %+v, in %d, want %d", 1+late, e, n, want)
		}
	}
}

// P16.1: the head is read slot by slot, from what was seen on.
func TestHead(t *testing.T) {
	p := proc.Place{Procs: 2, Slots: 4}
	m := cells.New(p.Cells())
	a, b := proc.New(p, 0), proc.New(p, 1)
	heads(t, b, m, 0, 1)
	decides(t, a, m, "1", in(0), 4)
	decides(t, a, m, "2", in(1), 4)
	heads(t, b, m, 2, 3)
	heads(t, b, m, 2, 1)
	heads(t, a, m, 2, 1)
	decides(t, a, m, "3", in(2), 4)
	heads(t, b, m, 3, 2)
	decides(t, b, m, "4", in(3), 4)
	heads(t, b, m, 4, 1)
	heads(t, a, m, 4, 2)
	if m.Look(p.Wish(0)) != bytesOf(0, 3, "3") || m.Look(p.Wish(1)) != bytesOf(1, 1, "4") || b.Seq() != 1 {
		t.Errorf("wishes %x, %x", m.Look(p.Wish(0)), m.Look(p.Wish(1)))
	}
}

// P16.1: what was decided while it wasn't looking is seen, and decided no second time.
func TestSeesOwn(t *testing.T) {
	p := proc.Place{Procs: 2, Slots: 4}
	m := cells.New(p.Cells())
	a, b := proc.New(p, 0), proc.New(p, 1)
	begins(t, b, "mine")
	b.Step(m)
	decides(t, a, m, "1", in(0), 4)
	decides(t, a, m, "2", in(2), 7) // slot 1 is for the wish of b
	if e, n := steps(t, b, m); e != in(1) || n != 2 || b.At() != 2 {
		t.Errorf("%+v, in %d", e, n)
	}
	decides(t, b, m, "next", in(3), 5)
}

// P16.1: which bytes of a wish are offered: just a record of a Seq that is greater than what is known.
func TestOffer(t *testing.T) {
	known := []string{bytesOf(0, 7, "seven"), "no record", bytesOf(2, 5, "five"), bytesOf(0, 3, "less")}
	for _, x := range []struct {
		wish  string
		taken bool
	}{
		{"", false}, {"no record", false}, {"\x00\x08", false}, {bytesOf(0, 8, "x") + "x", false}, {bytesOf(64, 8, ""), false}, {bytesOf(0, 1<<40+1, ""), false},
		{bytesOf(0, 0, "x"), false}, {bytesOf(0, 3, "x"), false}, {bytesOf(0, 7, "seven"), false}, {bytesOf(0, 7, "x"), false}, {bytesOf(0, 6, ""), false},
		{bytesOf(0, 8, "x"), true}, {bytesOf(0, 1<<40, strings.Repeat("b", 1024)), true}, {bytesOf(0, 8, strings.Repeat("b", 1025)), false},
		{bytesOf(2, 5, "x"), false}, {bytesOf(2, 6, "x"), true}, {bytesOf(1, 1, ""), true}, {bytesOf(1, 0, ""), false}, {bytesOf(63, 1, ""), true}, {bytesOf(63, 0, ""), false},
	} {
		p := proc.Place{Procs: 4, Slots: 9}
		m := cells.New(p.Cells())
		put := func(cell int, s string) {
			m.Do(0, cells.Access{Kind: cells.Write, Cell: cell, New: s})
		}
		for k, s := range known {
			put(p.Slot(k), s)
		}
		put(p.Wish(0), x.wish)
		me := proc.New(p, 3)
		slot, n, offer := 4, 8, bytesOf(3, 1, "mine") // slot 4 is for the wish of 0
		if x.taken {
			slot, n, offer = 5, 11, x.wish
		}
		decides(t, me, m, "mine", in(slot), n)
		if m.Look(p.Slot(4)) != offer {
			t.Errorf("wish %x: slot 4 holds %x", x.wish, m.Look(p.Slot(4)))
		}
	}
}

// P16.1: what it knows of others is what slots hold that it saw, whatever it was at.
func TestKnows(t *testing.T) {
	for _, byHead := range []bool{false, true} {
		p := proc.Place{Procs: 2, Slots: 6}
		m := cells.New(p.Cells())
		a, b := proc.New(p, 0), proc.New(p, 1)
		decides(t, a, m, "1", in(0), 4)
		if byHead {
			heads(t, b, m, 1, 2)
			decides(t, b, m, "mine", in(1), 4)
		} else {
			decides(t, b, m, "mine", in(1), 5)
		}
		decides(t, b, m, "more", in(2), 4) // and slot 2 isn't for the wish of a, which is decided already
	}
}

// P16.3: others that have decided whatever it reads cost it no more than the bound; that much it may cost.
func TestBound(t *testing.T) {
	for _, slots := range []int{0, 1, 5, 256} {
		p := proc.Place{Procs: 2, Slots: slots}
		m := cells.New(p.Cells())
		x := proc.New(p, 1)
		begins(t, x, "mine")
		n, e := 0, proc.End{}
		for ; !e.Done; n++ {
			if n > 0 && n%3 == 0 { // ahead of each of its Swaps
				m.Do(0, cells.Access{Kind: cells.Write, Cell: p.Slot(x.At()), New: bytesOf(0, 1+x.At(), "")})
			}
			e = x.Step(m)
		}
		if e != full || n != 1+3*slots || n > p.Bound() || m.Count(1) != n {
			t.Errorf("%d slots: %+v in %d steps of at most %d", slots, e, n, p.Bound())
		}
	}
}

// P16.4: who says its wish, and never steps again, is helped; who never does anything keeps nobody waiting.
func TestHelped(t *testing.T) {
	p := proc.Place{Procs: 3, Slots: 12}
	m := cells.New(p.Cells())
	a, b := proc.New(p, 0), proc.New(p, 2)
	decides(t, a, m, "1", in(0), 4)
	begins(t, b, "still")
	b.Step(m)
	decides(t, a, m, "2", in(1), 4)
	decides(t, a, m, "3", in(3), 7)
	if m.Look(p.Slot(2)) != bytesOf(2, 1, "still") {
		t.Errorf("slot 2: %x", m.Look(p.Slot(2)))
	}
	for k := 4; k < 12; k++ {
		decides(t, a, m, "more", in(k), 4)
	}
	decides(t, a, m, "late", full, 1)
	if e, n := steps(t, b, m); e != in(2) || n != 3 {
		t.Errorf("%+v in %d", e, n)
	}
}

// P16.4: a wish that comes while a slot is on its way isn't decided in that one, but in the next one of its process.
func TestHelpedLater(t *testing.T) {
	p := proc.Place{Procs: 2, Slots: 5}
	m := cells.New(p.Cells())
	a, b := proc.New(p, 1), proc.New(p, 0)
	begins(t, a, "1")
	for range 3 { // it has read the wish of b
		a.Step(m)
	}
	begins(t, b, "2")
	b.Step(m)
	if e := a.Step(m); e != in(0) {
		t.Errorf("%+v", e)
	}
	decides(t, a, m, "3", in(1), 4)
	decides(t, a, m, "4", in(3), 7)
	if m.Look(p.Slot(2)) != bytesOf(0, 1, "2") {
		t.Errorf("slot 2: %x", m.Look(p.Slot(2)))
	}
}

// P16.1: processes have what they know for themselves.
func TestNewIsItsOwn(t *testing.T) {
	p := proc.Place{Procs: 2, Slots: 2}
	m, other := cells.New(p.Cells()), cells.New(p.Cells())
	x, y := proc.New(p, 0), proc.New(p, 0)
	decides(t, x, m, "a", in(0), 4)
	if y.At() != 0 || y.Seq() != 0 || !y.Idle() || other.All() != 0 {
		t.Errorf("%d, %d, %v", y.At(), y.Seq(), y.Idle())
	}
	decides(t, y, other, "b", in(0), 4)
}

// P1: also of what may not be nothing panics, and each call ends.
func TestNoPanic(t *testing.T) {
	numbers := append([]int{0, 1, 2, 65, 300}, edges...)
	for _, procs := range numbers {
		for _, slots := range numbers {
			p := proc.Place{Procs: procs, Slots: slots}
			p.Check()
			p.Cells()
			p.Bound()
			for _, n := range numbers {
				p.Wish(n)
				p.Slot(n)
				for _, have := range []int{0, 1, 9} {
					m := cells.New(have)
					x := proc.New(p, n)
					x.Begin("a")
					for i := range 40 {
						if x.Step(m).Done && i%2 == 0 {
							x.Head()
						}
					}
				}
			}
		}
	}
}

// twin is a process as the document's words tell it, one access behind the other, written down at one go.
type twin struct {
	p              proc.Place
	who, seq, seen int
	known          map[int]int
	end            proc.End
	was            string // what the cell of its last access held
	done           bool   // was that done?
	access         cells.Access
	busy           bool
	next           func() (cells.Access, bool)
	stop           func()
}

// runs lets it go up to its first access.
func (w *twin) runs(what func(do func(cells.Access))) {
	w.next, w.stop = iter.Pull(func(yield func(cells.Access) bool) {
		goes := true
		what(func(a cells.Access) { goes = goes && yield(a) })
	})
	w.access, w.busy = w.next()
}

// step is one access.
func (w *twin) step(m *cells.Memory) proc.End {
	if !w.busy {
		return proc.End{}
	}
	w.was, w.done, _ = m.Do(w.who, w.access)
	if w.access, w.busy = w.next(); w.busy {
		return proc.End{}
	}
	w.stop()
	return w.end
}

// sees: a slot is decided.
func (w *twin) sees(s string) {
	if r, e := proc.Parse(s); e == api.OK && r.Seq > w.known[r.Who] {
		w.known[r.Who] = r.Seq
	}
	w.seen++
}

// begin: to decide its record.
func (w *twin) begin(body string) {
	w.seq++
	own := bytesOf(w.who, w.seq, body)
	w.runs(func(do func(cells.Access)) {
		do(cells.Access{Kind: cells.Write, Cell: w.who, New: own})
		for w.seen < w.p.Slots {
			slot := w.p.Procs + w.seen
			do(cells.Access{Kind: cells.Read, Cell: slot})
			holds := w.was
			if holds == "" {
				do(cells.Access{Kind: cells.Read, Cell: w.seen % w.p.Procs})
				offer := own
				if r, e := proc.Parse(w.was); e == api.OK && r.Seq > w.known[r.Who] {
					offer = w.was
				}
				do(cells.Access{Kind: cells.Swap, Cell: slot, Old: "", New: offer})
				if holds = w.was; w.done {
					holds = offer
				}
			}
			w.sees(holds)
			if holds == own {
				w.end = proc.End{Done: true, Slot: w.seen - 1}
				return
			}
		}
		w.end = proc.End{Done: true, Full: true}
	})
}

// head: to read the head.
func (w *twin) head() {
	w.runs(func(do func(cells.Access)) {
		for w.seen < w.p.Slots {
			do(cells.Access{Kind: cells.Read, Cell: w.p.Procs + w.seen})
			if w.was == "" {
				w.end = proc.End{Done: true, Slot: w.seen}
				return
			}
			w.sees(w.was)
		}
		do(cells.Access{Kind: cells.Read, Cell: w.who})
		w.end = proc.End{Done: true, Slot: w.p.Slots}
	})
}

// same looks whether two memories hold the same, of which the same accesses were made.
func same(t *testing.T, p proc.Place, a, b *cells.Memory) {
	t.Helper()
	for cell := range p.Cells() {
		if a.Look(cell) != b.Look(cell) || a.Swaps(cell) != b.Swaps(cell) {
			t.Fatalf("%+v: cell %d holds %x, want %x", p, cell, a.Look(cell), b.Look(cell))
		}
	}
	for who := range p.Procs {
		if a.Count(who) != b.Count(who) {
			t.Fatalf("%+v: %d accesses of %d, want %d", p, a.Count(who), who, b.Count(who))
		}
	}
}

// P16.1: processes do what the document's words say, access by access, in any order, also where others have written anything anywhere.
func TestAsTold(t *testing.T) {
	r := rand.New(rand.NewSource(18))
	for round := range 3000 {
		p := proc.Place{Procs: 1 + r.Intn(4), Slots: r.Intn(8)}
		m, wanted := cells.New(p.Cells()), cells.New(p.Cells())
		procs, twins := make([]*proc.Proc, p.Procs), make([]*twin, p.Procs)
		for who := range procs {
			procs[who], twins[who] = proc.New(p, who), &twin{p: p, who: who, known: map[int]int{}}
		}
		for range r.Intn(120) {
			if round%2 == 1 && r.Intn(6) == 0 {
				a := cells.Access{Kind: cells.Write, Cell: r.Intn(p.Cells()), New: anything(r)}
				m.Do(-1, a)
				wanted.Do(-1, a)
			}
			who := r.Intn(p.Procs)
			x, w := procs[who], twins[who]
			if !w.busy && r.Intn(4) > 0 {
				x.Head()
				w.head()
			} else if !w.busy {
				x.Begin("body")
				w.begin("body")
			}
			if got, want := x.Step(m), w.step(wanted); got != want {
				t.Fatalf("%+v, process %d: %+v, want %+v", p, who, got, want)
			}
			if x.Idle() == w.busy || x.At() != w.seen || x.Seq() != w.seq {
				t.Fatalf("%+v, process %d: idle %v, at %d, Seq %d, want %v, %d, %d", p, who, x.Idle(), x.At(), x.Seq(), !w.busy, w.seen, w.seq)
			}
			same(t, p, m, wanted)
		}
		for _, w := range twins {
			if w.busy {
				w.stop()
			}
		}
	}
}

// anything is bytes that a cell may hold: mostly records, of processes that may not be there.
func anything(r *rand.Rand) string {
	return []string{"", "no record", "\x00\x01", bytesOf(r.Intn(66), r.Intn(4), ""), bytesOf(r.Intn(3), r.Intn(4), "body"), bytesOf(r.Intn(3), r.Intn(9), "other")}[r.Intn(6)]
}

// call is something that a process began.
type call struct {
	own    string // its record's bytes; empty: it reads the head
	wished int    // how many slots were decided ahead of its first step, at which it wrote the wish
	took   int    // how many steps it took yet
	end    proc.End
}

// run is processes of one memory, and all that they began.
type run struct {
	t     *testing.T
	p     proc.Place
	m     *cells.Memory
	procs []*proc.Proc
	calls [][]call
}

func newRun(t *testing.T, p proc.Place) *run {
	w := &run{t: t, p: p, m: cells.New(p.Cells()), calls: make([][]call, p.Procs)}
	for who := range p.Procs {
		w.procs = append(w.procs, proc.New(p, who))
	}
	return w
}

// decided is how many of the slots, from the first one on, are.
func (w *run) decided() int {
	n := 0
	for n < w.p.Slots && w.m.Look(w.p.Slot(n)) != "" {
		n++
	}
	return n
}

// begin lets a process begin, if it is idle: to decide something, or to read the head.
func (w *run) begin(who int, head bool) {
	x := w.procs[who]
	if !x.Idle() {
		return
	}
	if head {
		x.Head()
		w.calls[who] = append(w.calls[who], call{})
		return
	}
	x.Begin("body")
	w.calls[who] = append(w.calls[who], call{own: bytesOf(who, x.Seq(), "body")})
}

// step is one step of a process, behind which all promises are looked at that can be.
func (w *run) step(who int) {
	x := w.procs[who]
	if x.Idle() {
		return
	}
	c := &w.calls[who][len(w.calls[who])-1]
	before := w.decided()
	if c.took == 0 {
		c.wished = before
	}
	c.end = x.Step(w.m)
	c.took++
	if c.took > w.p.Bound() || c.end.Done != x.Idle() {
		w.t.Fatalf("%+v: process %d: %d steps, %+v", w.p, who, c.took, c.end)
	}
	if !c.end.Done {
		return
	}
	now := w.decided()
	switch {
	case c.own == "" && (c.end.Full || c.end.Slot != before || now != before):
		w.t.Fatalf("%+v: process %d: head %+v, but %d are decided", w.p, who, c.end, before)
	case c.own != "" && c.end.Full && (c.end.Slot != 0 || now != w.p.Slots || w.where(c.own) >= 0):
		w.t.Fatalf("%+v: process %d: full, but %d are decided", w.p, who, now)
	case c.own != "" && !c.end.Full && c.end.Slot != w.where(c.own):
		w.t.Fatalf("%+v: process %d: %+v, but it is in slot %d", w.p, who, c.end, w.where(c.own))
	}
}

// where is the slot that holds bytes; -1: none.
func (w *run) where(s string) int {
	for k := range w.p.Slots {
		if w.m.Look(w.p.Slot(k)) == s {
			return k
		}
	}
	return -1
}

// holds looks at all promises behind any steps.
func (w *run) holds() {
	n := w.decided()
	last := make([]int, w.p.Procs)
	for k := range w.p.Slots {
		s := w.m.Look(w.p.Slot(k))
		if k >= n && s != "" || w.m.Swaps(w.p.Slot(k)) > 1 {
			w.t.Fatalf("%+v: slot %d: %d Swaps, behind %d that are decided", w.p, k, w.m.Swaps(w.p.Slot(k)), n)
		}
		if k >= n {
			continue
		}
		r, e := proc.Parse(s)
		if e != api.OK || r.Who >= w.p.Procs || r.Seq <= last[r.Who] || r.Seq > w.procs[r.Who].Seq() {
			w.t.Fatalf("%+v: slot %d: %+v behind %d", w.p, k, r, last[r.Who])
		}
		last[r.Who] = r.Seq
	}
	for who, calls := range w.calls {
		for _, c := range calls {
			w.helped(who, c, n)
		}
	}
}

// helped looks at P16.4 of what a process began, when n slots are decided.
func (w *run) helped(who int, c call, n int) {
	if c.own == "" || c.took == 0 {
		return
	}
	first := c.wished + 1
	for first%w.p.Procs != who {
		first++
	}
	if k := w.where(c.own); first < n && (k < 0 || k > first) {
		w.t.Fatalf("%+v: the wish %x, of when %d were decided, is in slot %d", w.p, c.own, c.wished, k)
	}
}

// P16.2, P16.3, P16.4: in any order of steps, where some process may stand still from any step on.
func TestAnyOrder(t *testing.T) {
	r := rand.New(rand.NewSource(19))
	for range 1500 {
		p := proc.Place{Procs: 1 + r.Intn(6), Slots: r.Intn(20)}
		w := newRun(t, p)
		still := make([]int, p.Procs)
		for who := range still {
			if still[who] = math.MaxInt; r.Intn(3) == 0 {
				still[who] = r.Intn(30)
			}
		}
		pace := 1 + r.Intn(9)
		for range r.Intn(300) {
			who := r.Intn(p.Procs)
			w.begin(who, r.Intn(4) == 0)
			for range 1 + r.Intn(pace) {
				if w.m.Count(who) < still[who] {
					w.step(who)
				}
			}
		}
		w.holds()
		for who := range p.Procs {
			for !w.procs[who].Idle() { // what others did, or didn't, keeps none from its end
				w.step(who)
			}
		}
		w.holds()
	}
}

// P16.2, P16.3: many processes, many slots.
func TestMany(t *testing.T) {
	w := newRun(t, proc.Place{Procs: api.MaxProcs, Slots: api.MaxLog})
	r := rand.New(rand.NewSource(20))
	for w.decided() < api.MaxLog {
		who := r.Intn(api.MaxProcs)
		w.begin(who, false)
		w.step(who)
	}
	for who := range api.MaxProcs {
		for !w.procs[who].Idle() {
			w.step(who)
		}
	}
	w.holds()
}

// all goes through each order in which processes have so many turns, and tells whose they are.
func all(turns []int, order []int, f func([]int)) {
	ends := true
	for who := range turns {
		if turns[who] == 0 {
			continue
		}
		ends = false
		turns[who]--
		all(turns, append(order, who), f)
		turns[who]++
	}
	if ends {
		f(order)
	}
}

// P16.2, P16.3, P16.4: in each order of steps, of few processes, slots and turns.
func TestEachOrder(t *testing.T) {
	for _, x := range []struct {
		slots int
		turns []int
		long  bool
	}{
		{0, []int{2, 2, 2}, false}, {1, []int{6, 6}, false}, {2, []int{8, 8}, false}, {3, []int{9, 7}, false}, {1, []int{4, 4, 4}, false},
		{2, []int{4, 5, 4}, true}, {3, []int{9, 10}, true},
	} {
		if x.long && testing.Short() {
			continue
		}
		ends := map[proc.End]int{}
		all(slices.Clone(x.turns), nil, func(order []int) {
			w := newRun(t, proc.Place{Procs: len(x.turns), Slots: x.slots})
			for _, who := range order {
				w.begin(who, false)
				w.step(who)
			}
			w.holds()
			for _, calls := range w.calls {
				ends[calls[0].end]++
			}
		})
		for k := range x.slots {
			if ends[in(k)] == 0 && k < len(x.turns) {
				t.Errorf("%+v: in no order a first record is decided in slot %d", x, k)
			}
		}
		if ends[full] == 0 && x.slots < len(x.turns) {
			t.Errorf("%+v: in no order the log is full", x)
		}
	}
}
