package fault_test

import (
	"errors"
	"math"
	"math/rand"
	"slices"
	"strconv"
	"strings"
	"testing"

	"hindsight/api"
	"hindsight/fault"
)

// wrap is an error from elsewhere, with another one behind it.
type wrap struct{ err error }

func (w wrap) Error() string { return "wrap of " + w.err.Error() }
func (w wrap) Unwrap() error { return w.err }

// list is an error from elsewhere, two of which can't be held against each other.
type list []int

func (l list) Error() string { return "list of " + strconv.Itoa(len(l)) }

// yes is an error from elsewhere that says it is whatever it is asked for.
type yes struct{}

func (yes) Error() string   { return "yes" }
func (yes) Is(_ error) bool { return true }

// around has a fault as a part of its own, but isn't one.
type around struct{ *fault.Fault }

var odd = errors.New("odd")

// all is each number that api names as an error.
func all() []api.Errno {
	var l []api.Errno
	for e := api.ErrEnd; e <= api.ErrBusy; e++ {
		l = append(l, e)
	}
	return l
}

// step is what a fault of that step alone is asked for with.
func step(s string) *fault.Fault {
	return &fault.Fault{Step: s}
}

// P3.1: Error.
func TestError(t *testing.T) {
	for _, x := range []struct {
		f    *fault.Fault
		want string
	}{
		{&fault.Fault{}, " 0: nothing"},
		{&fault.Fault{Step: "undo", At: 3}, "undo 3: nothing"},
		{&fault.Fault{Step: "undo", At: -7, Err: api.ErrConflict}, "undo -7: conflict"},
		{&fault.Fault{Step: "a b: c/\x00\xff", At: math.MaxInt, Err: api.ErrOver}, "a b: c/\x00\xff 9223372036854775807: overflow"},
		{&fault.Fault{At: math.MinInt, Err: odd}, " -9223372036854775808: odd"},
		{&fault.Fault{Step: "x", Err: api.OK}, "x 0: ok"},
		{&fault.Fault{Step: "x", Err: list{1, 2}}, "x 0: list of 2"},
		{&fault.Fault{Step: "a", At: 1, Err: &fault.Fault{Step: "b", At: 2, Err: api.ErrEnd}}, "a 1: b 2: end"},
		{&fault.Fault{Step: "a", At: 1, Err: &fault.Fault{Step: "b", At: 2}}, "a 1: b 2: nothing"},
		{&fault.Fault{Step: "a", At: 1, Err: wrap{&fault.Fault{Step: "b", At: 2, Err: api.ErrEnd}}}, "a 1: wrap of b 2: end"},
		{&fault.Fault{Step: "a", At: 1, Err: wrap{api.ErrEnd}}, "a 1: wrap of end"},
		{&fault.Fault{Step: "a", At: 1, Err: around{&fault.Fault{Step: "b", At: 2, Err: api.ErrEnd}}}, "a 1: b 2: end"},
	} {
		if got := x.f.Error(); got != x.want {
			t.Errorf("%q, want %q", got, x.want)
		}
	}
	for _, e := range all() {
		if got, want := fault.In("s", 5, e).Error(), "s 5: "+e.Error(); got != want {
			t.Errorf("%q, want %q", got, want)
		}
	}
}

// P3.1: Unwrap.
func TestUnwrap(t *testing.T) {
	for _, err := range []error{nil, api.ErrEnd, api.OK, odd, wrap{odd}, step("b"), around{step("b")}} {
		f := &fault.Fault{Step: "a", At: 1, Err: err}
		if f.Unwrap() != err || errors.Unwrap(f) != err {
			t.Errorf("Unwrap of %v: %v", f, f.Unwrap())
		}
	}
}

// P3.1: errors.Is, with numbers, other errors, and faults.
func TestIs(t *testing.T) {
	b := &fault.Fault{Step: "b", At: 2, Err: wrap{api.ErrShort}}
	a := &fault.Fault{Step: "a", At: 1, Err: b}
	bare := &fault.Fault{Step: "c", At: 3}
	for _, x := range []struct {
		name        string
		err, target error
		want        bool
	}{
		{"a number", a, api.ErrShort, true},
		{"another number", a, api.ErrEnd, false},
		{"OK", a, api.OK, false},
		{"a wrap", a, wrap{api.ErrShort}, true},
		{"another wrap", a, wrap{api.ErrEnd}, false},
		{"another error", a, odd, false},
		{"an error behind", fault.In("a", 1, odd), odd, true},
		{"one of the same word", fault.In("a", 1, odd), errors.New("odd"), false},
		{"its step", a, step("a"), true},
		{"its step, at another place", a, &fault.Fault{Step: "a", At: 77}, true},
		{"the step behind", a, step("b"), true},
		{"the step behind a wrap", wrap{a}, step("b"), true},
		{"no step of it", a, step("c"), false},
		{"the empty step", a, step(""), false},
		{"a part of its step", &fault.Fault{Step: "ab"}, step("a"), false},
		{"its step, of one with nothing behind", bare, step("c"), true},
		{"no step, of one with nothing behind", bare, step("a"), false},
		{"nothing behind", bare, api.OK, false},
		{"the step around", b, step("a"), false},
		{"itself", a, a, true},
		{"the one behind", a, b, true},
		{"the one around", b, a, false},
		{"one that says the same", a, &fault.Fault{Step: "a", At: 1, Err: b}, false},
		{"its step, with its number", b, &fault.Fault{Step: "b", At: 2, Err: wrap{api.ErrShort}}, false},
		{"its step, with a number", a, &fault.Fault{Step: "a", Err: api.ErrShort}, false},
		{"its step, with OK", a, &fault.Fault{Step: "a", Err: api.OK}, false},
		{"its step, in a wrap", a, wrap{step("a")}, false},
		{"its step, in a fault", a, &fault.Fault{Step: "x", Err: step("a")}, false},
		{"its step, as a part", a, around{step("a")}, false},
		{"a list", a, list{1}, false},
		{"a list, of a list", fault.In("a", 1, list{1}), list{1}, false},
		{"nil", a, nil, false},
	} {
		if got := errors.Is(x.err, x.target); got != x.want {
			t.Errorf("%s: %v", x.name, got)
		}
	}
}

// P3.1: Is asks a fault alone, whatever stands behind it.
func TestIsOfOne(t *testing.T) {
	a := &fault.Fault{Step: "a", At: 1, Err: &fault.Fault{Step: "b", At: 2, Err: api.ErrShort}}
	for _, target := range []error{nil, api.ErrShort, api.OK, odd, list{1}, step("b"), step(""), wrap{step("a")}, around{step("a")}, a} {
		if a.Is(target) {
			t.Errorf("Is(%v)", target)
		}
	}
	if !a.Is(step("a")) || !a.Is(&fault.Fault{Step: "a", At: -9}) || !step("").Is(step("")) {
		t.Error("Is of its step")
	}
}

// P3.1: errors.As.
func TestAs(t *testing.T) {
	b := &fault.Fault{Step: "b", At: 2, Err: api.ErrShort}
	a := &fault.Fault{Step: "a", At: 1, Err: wrap{b}}
	var f *fault.Fault
	if !errors.As(a, &f) || f != a {
		t.Errorf("the outer fault: %v", f)
	}
	if !errors.As(a.Err, &f) || f != b {
		t.Errorf("the inner fault: %v", f)
	}
	if errors.As(b.Err, &f) || errors.As(odd, &f) {
		t.Errorf("a fault in what has none: %v", f)
	}
	var e api.Errno
	if !errors.As(a, &e) || e != api.ErrShort {
		t.Errorf("the number: %v", e)
	}
	if errors.As(step("a"), &e) || errors.As(fault.In("a", 1, odd), &e) {
		t.Errorf("a number in what has none: %v", e)
	}
	var w wrap
	if !errors.As(a, &w) || w.err != error(b) {
		t.Errorf("the wrap: %v", w)
	}
}

// P3.1: In.
func TestIn(t *testing.T) {
	if err := fault.In("x", 1, nil); err != nil {
		t.Errorf("In of nil: %v", err)
	}
	if err := fault.In("x", 1, api.OK); err != nil {
		t.Errorf("In of OK: %v", err)
	}
	if err := fault.In("x", 1, fault.In("y", 2, api.OK)); err != nil {
		t.Errorf("In of In of OK: %v", err)
	}
	for _, err := range []error{api.ErrEnd, api.ErrBusy, api.Errno(-1), api.Errno(99), odd, wrap{api.OK}, &fault.Fault{Err: api.OK}, &fault.Fault{}} {
		for _, at := range []int{0, 1, -1, math.MaxInt, math.MinInt} {
			f, ok := fault.In("x y", at, err).(*fault.Fault)
			if !ok || *f != (fault.Fault{Step: "x y", At: at, Err: err}) {
				t.Errorf("In(%d, %v): %v", at, err, f)
			}
		}
	}
	if f, ok := fault.In("", 0, list{1, 2}).(*fault.Fault); !ok || f.Step != "" || f.Err.Error() != "list of 2" {
		t.Errorf("In of a list: %v", f)
	}
	if one, two := fault.In("x", 1, odd), fault.In("x", 1, odd); one == two {
		t.Error("two faults are one")
	}
}

// P3.1: Of.
func TestOf(t *testing.T) {
	for _, x := range []struct {
		err  error
		want api.Errno
	}{
		{nil, api.OK}, {api.OK, api.OK}, {api.Errno(99), 99}, {api.Errno(-1), -1},
		{odd, api.ErrForm}, {list{1}, api.ErrForm}, {wrap{odd}, api.ErrForm}, {yes{}, api.ErrForm},
		{step("a"), api.ErrForm}, {fault.In("a", 1, odd), api.ErrForm}, {fault.In("a", 1, step("b")), api.ErrForm},
		{wrap{api.ErrBusy}, api.ErrBusy}, {wrap{fault.In("a", 1, api.ErrBusy)}, api.ErrBusy},
		{fault.In("a", 1, wrap{api.ErrBusy}), api.ErrBusy}, {errors.Join(api.ErrBusy), api.ErrBusy},
		{fault.In("a", 1, wrap{api.OK}), api.OK},
	} {
		if got := fault.Of(x.err); got != x.want {
			t.Errorf("Of(%v): %v, want %v", x.err, got, x.want)
		}
	}
	for _, e := range all() {
		if fault.Of(e) != e || fault.Of(fault.In("a", 1, e)) != e || fault.Of(fault.In("a", 1, fault.In("b", 2, e))) != e {
			t.Errorf("Of with %v", e)
		}
	}
}

// P3.1: Has.
func TestHas(t *testing.T) {
	for _, e := range all() {
		for _, err := range []error{e, fault.In("a", 1, e), wrap{e}, fault.In("a", 1, wrap{fault.In("b", 2, e)})} {
			for _, other := range all() {
				if got := fault.Has(err, other); got != (e == other) {
					t.Errorf("Has(%v, %v): %v", err, other, got)
				}
			}
			if fault.Has(err, api.OK) {
				t.Errorf("Has(%v, OK)", err)
			}
		}
	}
	for _, err := range []error{nil, odd, list{1}, step("a"), fault.In("a", 1, odd), wrap{odd}} {
		if fault.Has(err, api.ErrForm) || fault.Has(err, api.OK) {
			t.Errorf("Has of %v, which has none", err)
		}
	}
	if !fault.Has(api.OK, api.OK) || !fault.Has(fault.In("a", 1, api.Errno(99)), 99) {
		t.Error("Has of a number itself")
	}
}

// P3.1: Where, Within, Path.
func TestWhere(t *testing.T) {
	inner := fault.In("a", 3, api.ErrEnd)
	for _, x := range []struct {
		err   error
		steps []string
		at    int
		path  string
	}{
		{nil, nil, -1, "ok"},
		{api.OK, nil, -1, "ok"},
		{api.ErrOver, nil, -1, "overflow"},
		{odd, nil, -1, "form"},
		{list{1}, nil, -1, "form"},
		{wrap{api.ErrBig}, nil, -1, "big"},
		{yes{}, nil, -1, "form"},
		{step("a"), []string{"a"}, 0, "a/form"},
		{&fault.Fault{At: -5}, []string{""}, -5, "/form"},
		{inner, []string{"a"}, 3, "a/end"},
		{fault.In("branch", 3, fault.In("command", 7, api.ErrOver)), []string{"branch", "command"}, 7, "branch/command/overflow"},
		{fault.In("a", 4, inner), []string{"a", "a"}, 3, "a/a/end"},
		{fault.In("b/c", 9, fault.In("", 8, fault.In("b", math.MinInt, odd))), []string{"b/c", "", "b"}, math.MinInt, "b/c//b/form"},
		{fault.In("b", 9, wrap{wrap{inner}}), []string{"b", "a"}, 3, "b/a/end"},
		{wrap{fault.In("b", 9, wrap{inner})}, []string{"b", "a"}, 3, "b/a/end"},
		{errors.Join(inner), []string{"a"}, 3, "a/end"},
		{fault.In("b", 9, yes{}), []string{"b"}, 9, "b/form"},
		{fault.In("b", -1, api.Errno(99)), []string{"b"}, -1, "b/ok"},
	} {
		steps, at := fault.Where(x.err)
		if !slices.Equal(steps, x.steps) || at != x.at {
			t.Errorf("Where(%v): %q, %d", x.err, steps, at)
		}
		if got := fault.Path(x.err); got != x.path {
			t.Errorf("Path(%v): %q, want %q", x.err, got, x.path)
		}
		for _, s := range []string{"a", "b", "c", "b/c", "", "branch", "command", "end", "yes"} {
			if got := fault.Within(x.err, s); got != slices.Contains(x.steps, s) {
				t.Errorf("Within(%v, %q): %v", x.err, s, got)
			}
		}
	}
}

// P3.1, K3: what Where answers is new, and nothing of what was handed in is changed.
func TestWhereSharesNothing(t *testing.T) {
	err := fault.In("a", 1, fault.In("b", 2, api.ErrEnd))
	steps, _ := fault.Where(err)
	steps[0], steps[1] = "x", "y"
	if again, at := fault.Where(err); !slices.Equal(again, []string{"a", "b"}) || at != 2 || err.Error() != "a 1: b 2: end" {
		t.Errorf("Where, behind a change: %q, %d, %v", again, at, err)
	}
}

// layers is an error of many, and what is to be found in it.
type layers struct {
	err   error
	steps []string
	at    int
	word  string
	all   []error
}

// wrapped is one layer more, a fault or a wrap.
func (l layers) wrapped(r *rand.Rand) layers {
	if r.Intn(3) == 0 {
		l.err, l.word = wrap{l.err}, "wrap of "+l.word
	} else {
		s, at := strconv.Itoa(r.Intn(10)), r.Intn(100)-50
		if len(l.steps) == 0 {
			l.at = at
		}
		l.err = fault.In(s, at, l.err)
		l.steps = append([]string{s}, l.steps...)
		l.word = s + " " + strconv.Itoa(at) + ": " + l.word
	}
	l.all = append(slices.Clone(l.all), l.err)
	return l
}

// looks holds the calls against what is to be found.
func (l layers) looks(t *testing.T, number api.Errno) {
	t.Helper()
	if steps, at := fault.Where(l.err); !slices.Equal(steps, l.steps) || at != l.at {
		t.Errorf("Where(%v): %q, %d, want %q, %d", l.err, steps, at, l.steps, l.at)
	}
	if l.err.Error() != l.word || fault.Of(l.err) != number || !fault.Has(l.err, number) {
		t.Errorf("%v, want %s", l.err, l.word)
	}
	for _, err := range l.all {
		if !errors.Is(l.err, err) {
			t.Errorf("%v doesn't stand behind %v", err, l.err)
		}
	}
	for i := range 10 {
		s := strconv.Itoa(i)
		want := slices.Contains(l.steps, s)
		if fault.Within(l.err, s) != want || errors.Is(l.err, step(s)) != want {
			t.Errorf("Within(%v, %s) isn't %v", l.err, s, want)
		}
	}
}

// P3.2: whatever stands behind an error stands behind each fault around it.
func TestBehindEachFault(t *testing.T) {
	r := rand.New(rand.NewSource(1))
	for range 300 {
		number := all()[r.Intn(20)]
		l := layers{err: number, at: -1, word: number.Error(), all: []error{number}}
		for range r.Intn(12) {
			l.looks(t, number)
			l = l.wrapped(r)
		}
		l.looks(t, number)
	}
}

// P1: as many levels as may be.
func TestDeep(t *testing.T) {
	const depth = 1 << 16
	err := error(api.ErrShort)
	for i := range depth {
		err = fault.In("s", i%10, err)
	}
	if fault.Of(err) != api.ErrShort || !fault.Has(err, api.ErrShort) || fault.Has(err, api.ErrEnd) || fault.Within(err, "t") {
		t.Error("the number far behind")
	}
	if steps, at := fault.Where(err); len(steps) != depth || at != 0 {
		t.Errorf("Where: %d steps, %d", len(steps), at)
	}
	if s := err.Error(); len(s) != depth*len("s 0: ")+len("short") || !strings.HasSuffix(s, "s 1: s 0: short") {
		t.Errorf("Error: %d bytes", len(s))
	}
	if s := fault.Path(err); s != strings.Repeat("s/", depth)+"short" {
		t.Errorf("Path: %d bytes", len(s))
	}
}
