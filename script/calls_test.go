package script_test

import (
	"errors"
	"go/ast"
	"go/parser"
	"go/token"
	"math"
	"math/rand"
	"path/filepath"
	"reflect"
	"slices"
	"strings"
	"testing"

	"hindsight/api"
	"hindsight/audit"
	"hindsight/branch"
	"hindsight/cells"
	"hindsight/clash"
	"hindsight/command"
	"hindsight/digest"
	"hindsight/engine"
	"hindsight/fault"
	"hindsight/history"
	"hindsight/ledger"
	"hindsight/log"
	"hindsight/machine"
	"hindsight/object"
	"hindsight/proc"
	"hindsight/proof"
	"hindsight/prune"
	"hindsight/rank"
	"hindsight/replay"
	"hindsight/sched"
	"hindsight/script"
	"hindsight/stock"
	"hindsight/text"
	"hindsight/tower"
	"hindsight/tree"
	"hindsight/undo"
	"hindsight/wire"
)

// parity is a model whose state is how many asks there were, but for an even number.
type parity struct{}

func (parity) Next(state, ask string) (string, string) {
	if state == "" {
		return ask, "x"
	}
	return state, ""
}

// quick is a source of random numbers that is seeded in no time.
type quick uint64

func (q *quick) Seed(seed int64) {
	*q = quick(seed)
}

func (q *quick) Int63() int64 {
	*q += 0x9e3779b97f4a7c15
	x := uint64(*q)
	x = (x ^ x>>30) * 0xbf58476d1ce4e5b9
	x = (x ^ x>>27) * 0x94d049bb133111eb
	return int64((x ^ x>>31) >> 1)
}

func seeded(seed int64) *rand.Rand {
	q := quick(seed)
	return rand.New(&q)
}

// functions are all that the chapters list, by their names.
func functions() map[string]any {
	return map[string]any{
		"digest.New": digest.New, "digest.Of": digest.Of, "digest.Leaf": digest.Leaf, "digest.Node": digest.Node, "digest.Hex": digest.Hex,
		"wire.Read": wire.Read,
		"fault.In":  fault.In, "fault.Of": fault.Of, "fault.Has": fault.Has, "fault.Where": fault.Where, "fault.Within": fault.Within, "fault.Path": fault.Path,
		"rank.New": rank.New,
		"text.New": text.New, "text.Take": text.Take, "text.Load": text.Load,
		"ledger.New": ledger.New, "ledger.Take": ledger.Take, "ledger.Load": ledger.Load,
		"stock.New": stock.New, "stock.Read": stock.Read, "stock.Load": stock.Load,
		"object.New": object.New, "object.Load": object.Load, "object.Apart": object.Apart, "object.Take": object.Take,
		"tree.New":        tree.New,
		"proof.Inclusion": proof.Inclusion, "proof.Consistency": proof.Consistency, "proof.Parse": proof.Parse,
		"clash.Way": clash.Way, "clash.Leaves": clash.Leaves, "clash.Sides": clash.Sides, "clash.Prefix": clash.Prefix,
		"prune.New": prune.New,
		"tower.New": tower.New[string], "tower.Height": tower.Height,
		"replay.Parse": replay.Parse, "replay.New": replay.New,
		"cells.New":  cells.New,
		"proc.Parse": proc.Parse, "proc.New": proc.New,
		"sched.New": sched.New, "sched.Plan": sched.Plan,
		"log.New":       log.New,
		"history.Order": history.Order, "history.Replay": history.Replay, "history.Find": history.Find,
		"branch.New": branch.New,
		"undo.Plan":  undo.Plan, "undo.Do": undo.Do, "undo.May": undo.May, "undo.Without": undo.Without,
		"command.Parse": command.Parse, "command.ParseAnswer": command.ParseAnswer, "command.Apply": command.Apply, "command.Run": command.Run,
		"machine.New":  machine.New,
		"engine.Parse": engine.Parse, "engine.Reply": engine.Reply, "engine.New": engine.New,
		"audit.Leaf": audit.Leaf, "audit.Prefix": audit.Prefix,
		"script.ParseLine": script.ParseLine, "script.Parse": script.Parse, "script.Run": script.Run, "script.Play": script.Play, "script.Verbs": script.Verbs,
	}
}

// receivers are what calls are made on: a zero value of each.
func receivers() []any {
	return []any{
		&digest.Hash{}, &wire.Writer{}, &wire.Reader{}, &fault.Fault{}, &rank.Queue{}, text.Op{}, &text.Doc{}, ledger.Op{}, &ledger.Book{}, stock.Op{}, &stock.Shelf{}, object.Op{}, &tree.Tree{}, proof.Proof{}, clash.Pair{}, &prune.Vault{}, &tower.List[string]{}, replay.Command{}, &replay.Line{}, &cells.Memory{}, proc.Record{}, proc.Place{}, &proc.Proc{}, &sched.Sched{}, &sched.Agenda{}, &log.View{}, history.Call{}, &history.History{}, &branch.Table{}, command.Command{}, command.Answer{}, &machine.Machine{}, engine.Ask{}, &engine.Engine{}, &audit.Log{},
	}
}

// unlisted are calls that a thing has by what it embeds, and that its chapter leaves out, or promises nothing behind.
func unlisted(name string) bool {
	for _, x := range []string{"Line Add Keep Clone", "Sched Add Take Due Drop", "Engine Begin Head Step Look", "Machine Look"} {
		l := strings.Fields(x)
		if strings.Contains(name, "."+l[0]+".") && slices.Contains(l[1:], name[strings.LastIndex(name, ".")+1:]) {
			return true
		}
	}
	return false
}

// besides are the calls that answer something beside an error.
func besides(name string) bool {
	return name == "*branch.Table.Do" || name == "*log.View.Look" || name == "*cells.Memory.Do"
}

// world is things that were made, by their types.
type world struct {
	made  map[reflect.Type][]reflect.Value
	empty bool // lists of nothing are handed in as empty ones, not as nil
}

// pick is one of the things that were made, or a value of a plain type; false: there is none yet.
func (w *world) pick(r *rand.Rand, x reflect.Type) (reflect.Value, bool) {
	switch x.String() {
	case "error":
		return errorOf(r), true
	case "history.Model":
		return reflect.ValueOf(parity{}), true
	case "*fault.Fault":
		err, _ := errorOf(r).Interface().(error)
		return reflect.ValueOf(&fault.Fault{Step: someText(r), At: someNumber(r), Err: err}), true
	}
	if x.Kind() == reflect.Pointer || x.Kind() == reflect.Interface {
		l := w.made[x]
		if len(l) == 0 {
			return reflect.Value{}, false
		}
		return l[r.Intn(len(l))], true
	}
	return w.value(r, x), true
}

// value is a value of a plain type.
func (w *world) value(r *rand.Rand, x reflect.Type) reflect.Value {
	v := reflect.New(x).Elem()
	switch x.Kind() {
	case reflect.Int:
		v.SetInt(int64(someNumber(r)))
	case reflect.Uint64:
		v.SetUint(uint64(someNumber(r)))
	case reflect.Uint8:
		v.SetUint(uint64(r.Intn(3)))
	case reflect.String:
		v.SetString(someText(r))
	case reflect.Array:
		fill := uint64(r.Intn(3))
		for i := range v.Len() {
			v.Index(i).SetUint(fill)
		}
	case reflect.Slice:
		n := r.Intn(4)
		if n > 0 || w.empty {
			v.Set(reflect.MakeSlice(x, n, n))
		}
		for i := range n {
			v.Index(i).Set(w.value(r, x.Elem()))
		}
	case reflect.Struct:
		if y, ok := someStruct(r, x); ok {
			return y
		}
		for i := range v.NumField() {
			v.Field(i).Set(w.value(r, x.Field(i).Type))
		}
	default:
		panic("a value of " + x.String())
	}
	return v
}

// keep is a thing more that was made.
func (w *world) keep(at int, v reflect.Value) {
	if (v.Kind() != reflect.Pointer && v.Kind() != reflect.Interface) || v.IsNil() || v.Type().String() == "error" {
		return
	}
	l := w.made[v.Type()]
	if len(l) < 8 {
		w.made[v.Type()] = append(l, v)
	} else {
		l[at%8] = v
	}
}

func someNumber(r *rand.Rand) int {
	if r.Intn(4) > 0 {
		return r.Intn(8) - 1
	}
	return []int{math.MinInt, math.MinInt + 1, -1 << 40, -2, 9, 16, 40, 41, 63, 64, 65, 200, 201, 256, 257, 1 << 20, 1<<20 + 1, 1 << 40, 1<<40 + 1, math.MaxInt - 1, math.MaxInt}[r.Intn(21)]
}

// someText is a text that some call takes, or any.
func someText(r *rand.Rand) string {
	ask := []string{"0 add 0 nut 5", "1 undo 0 0", "0 insert 0 0 ab", "0 head 0", "pick 0 1 0", "0 retain 0 1", "1 leaf 0 0 1"}[r.Intn(7)]
	x, _ := script.ParseLine(ask)
	var w wire.Writer
	switch r.Intn(12) {
	case 0:
		return ask
	case 1:
		return ask + "\npick 0 0 0 0 1 1\n"
	case 2:
		return x.Ask.Text()
	case 3:
		return x.Ask.C.Text()
	case 4:
		return proc.Record{Who: r.Intn(3), Seq: r.Intn(3), Body: x.Ask.C.Text()}.Text()
	case 5:
		return replay.Command{Op: x.Ask.C.Op, Of: r.Intn(3)}.Text()
	case 6:
		return command.Answer{At: r.Intn(3), Gone: "ab"}.Text()
	case 7:
		return proof.Proof{Kind: 1 + r.Intn(2), I: r.Intn(2), N: 1 + r.Intn(2), Sums: make([]api.Sum, r.Intn(2))}.Text()
	case 8:
		return w.Num(1).Str("nut").Num(uint64(r.Intn(5))).Text()
	case 9:
		b := make([]byte, r.Intn(9))
		r.Read(b)
		return string(b)
	}
	return []string{"", "a", "nut", "bolt", "leaf", "line", strings.Repeat("x", 41), strings.Repeat("\x80", 300)}[r.Intn(8)]
}

// someStruct is one that may be, now and then; false: any.
func someStruct(r *rand.Rand, x reflect.Type) (reflect.Value, bool) {
	kind := kinds[r.Intn(3)]
	l, err := script.ParseLine(someAsk(r, kind, r.Intn(3)))
	if r.Intn(5) == 0 || err != nil {
		return reflect.Value{}, false
	}
	c := l.Ask.C
	switch x.String() {
	case "proc.Place":
		return reflect.ValueOf(proc.Place{Procs: 1 + r.Intn(3), Slots: r.Intn(9)}), true
	case "script.Line":
		return reflect.ValueOf(l), true
	case "engine.Ask":
		return reflect.ValueOf(l.Ask), true
	case "command.Command":
		return reflect.ValueOf(c), true
	case "replay.Command":
		return reflect.ValueOf(replay.Command{Op: c.Op, Of: r.Intn(3)}), true
	case "object.Op":
		return reflect.ValueOf(c.Op), true
	case "text.Op":
		return reflect.ValueOf(c.Op.Text), true
	case "ledger.Op":
		return reflect.ValueOf(c.Op.Ledger), true
	case "stock.Op":
		return reflect.ValueOf(c.Op.Stock), true
	}
	return reflect.Value{}, false
}

// errorOf is an error, or nil.
func errorOf(r *rand.Rand) reflect.Value {
	v := reflect.New(reflect.TypeFor[error]()).Elem()
	l := []error{nil, api.OK, api.ErrFull, errors.New("elsewhere"), fault.In("leaf", -1, api.ErrProof), fault.In("line", 3, fault.In("leaf", 5, api.ErrBusy)), &fault.Fault{Step: "leaf"}}
	if err := l[r.Intn(len(l))]; err != nil {
		v.Set(reflect.ValueOf(err))
	}
	return v
}

// same looks whether two values are; things that were made are looked at by their calls.
func same(a, b reflect.Value) bool {
	switch a.Kind() {
	case reflect.Slice, reflect.Array:
		if a.Len() != b.Len() {
			return false
		}
		for i := range a.Len() {
			if !same(a.Index(i), b.Index(i)) {
				return false
			}
		}
		return true
	case reflect.Struct:
		for i := range a.NumField() {
			if !same(a.Field(i), b.Field(i)) {
				return false
			}
		}
		return true
	case reflect.Pointer, reflect.Interface:
		if a.IsNil() || b.IsNil() {
			return a.IsNil() && b.IsNil()
		}
		x, ok := a.Interface().(error)
		return !ok || x.Error() == b.Interface().(error).Error()
	}
	return a.Interface() == b.Interface()
}

// spoil lets lists hold nothing any more, as whoever has them may.
func spoil(v reflect.Value) {
	switch v.Kind() {
	case reflect.Slice:
		for i := range v.Len() {
			spoil(v.Index(i))
			v.Index(i).SetZero()
		}
	case reflect.Struct:
		for i := range v.NumField() {
			if v.Type().Field(i).IsExported() {
				spoil(v.Field(i))
			}
		}
	}
}

// zero: is it nothing, or a list of nothing?
func zero(v reflect.Value) bool {
	return v.IsZero() || v.Kind() == reflect.Slice && v.Len() == 0
}

// callable is a call, by its name.
type callable struct {
	name string
	on   reflect.Type // what it is called on; nil: nothing
	f    reflect.Value
}

// callables are all calls, in an order that is always the same.
func callables() []callable {
	var l []callable
	for name, f := range functions() {
		l = append(l, callable{name: name, f: reflect.ValueOf(f)})
	}
	slices.SortFunc(l, func(a, b callable) int { return strings.Compare(a.name, b.name) })
	on := []reflect.Type{reflect.TypeFor[object.State]()}
	for _, x := range receivers() {
		on = append(on, reflect.TypeOf(x))
	}
	for _, x := range on {
		for i := range x.NumMethod() {
			if name := x.String() + "." + x.Method(i).Name; !unlisted(name) {
				l = append(l, callable{name: name, on: x})
			}
		}
	}
	return l
}

// call calls it with things that the random numbers of a seed pick: what is answered; false: not all that it wants is there.
func (c callable) call(t *testing.T, w *world, seed int64) ([]reflect.Value, bool) {
	t.Helper()
	defer func() {
		if wrong := recover(); wrong != nil {
			t.Fatalf("%s, seed %d, panics: %v", c.name, seed, wrong)
		}
	}()
	f := c.f
	if c.on != nil {
		on, ok := w.pick(seeded(seed), c.on)
		if !ok {
			return nil, false
		}
		f = on.MethodByName(c.name[strings.LastIndex(c.name, ".")+1:])
	}
	args, ok := c.args(w, f.Type(), seed)
	kept, _ := c.args(w, f.Type(), seed)
	if !ok {
		return nil, false
	}
	answers := callWith(f, args)
	for i := range args {
		if k := args[i].Kind(); k != reflect.Pointer && k != reflect.Interface && !same(args[i], kept[i]) {
			t.Fatalf("%s, seed %d, changes what it is handed: %v, was %v", c.name, seed, args[i], kept[i])
		}
		if w.empty {
			spoil(args[i])
		}
	}
	return answers, true
}

// args are what it is handed.
func (c callable) args(w *world, x reflect.Type, seed int64) ([]reflect.Value, bool) {
	r := seeded(seed + 1)
	var l []reflect.Value
	for i := range x.NumIn() {
		v, ok := w.pick(r, x.In(i))
		if !ok {
			return nil, false
		}
		if c.name == "*sched.Sched.Picks" && v.Int() > 1000 {
			v = reflect.ValueOf(1000) // more turns than this are too many to wait for
		}
		l = append(l, v)
	}
	return l, true
}

func callWith(f reflect.Value, args []reflect.Value) []reflect.Value {
	if f.Type().IsVariadic() {
		return f.CallSlice(args)
	}
	return f.Call(args)
}

// wrong is what an answer says against K2: something stands beside an error, or beside false; empty: nothing.
func wrong(name string, answers []reflect.Value) string {
	if len(answers) < 2 || besides(name) {
		return ""
	}
	others, last := answers[:len(answers)-1], answers[len(answers)-1]
	failed := last.Kind() == reflect.Bool && !last.Bool()
	if last.Type().String() == "error" || last.Type().String() == "api.Errno" {
		failed = !last.IsZero()
	}
	if failed && slices.ContainsFunc(others, func(v reflect.Value) bool { return !zero(v) }) {
		return "answers something beside an error, or false"
	}
	return ""
}

// P1, P2: any calls, one behind the other, end, and none panics; in two worlds, of which one hands in empty lists where the other one hands in nil, and spoils all that it handed in and was answered, each is answered the same.
func TestAnyCalls(t *testing.T) {
	if testing.Short() {
		t.Skip("takes seconds")
	}
	calls := callables()
	had := map[string]int{}
	for round := range 40 {
		r := rand.New(rand.NewSource(int64(12 + round)))
		one, other := &world{made: map[reflect.Type][]reflect.Value{}}, &world{made: map[reflect.Type][]reflect.Value{}, empty: true}
		for _, w := range []*world{one, other} {
			w.keep(0, reflect.ValueOf(&wire.Writer{}))
			w.keep(0, reflect.ValueOf(&history.History{}))
			w.keep(0, reflect.ValueOf(&audit.Log{}))
		}
		for range 8000 {
			c, seed := calls[r.Intn(len(calls))], r.Int63()
			a, ok := c.call(t, one, seed)
			b, _ := c.call(t, other, seed)
			if !ok {
				continue
			}
			had[c.name]++
			if s := wrong(c.name, a); s != "" {
				t.Fatalf("%s, seed %d, %s: %v", c.name, seed, s, a)
			}
			for i := range a {
				if !same(a[i], b[i]) {
					t.Fatalf("%s, seed %d, answers %v, and %v", c.name, seed, a, b)
				}
				spoil(b[i])
				if c.name != "*branch.Table.Line" && !strings.HasSuffix(c.name, ".Table") { // nothing is to be done on these
					one.keep(int(seed%8), a[i])
					other.keep(int(seed%8), b[i])
				}
			}
		}
	}
	for _, c := range calls {
		if had[c.name] < 50 {
			t.Errorf("%s only %d times", c.name, had[c.name])
		}
	}
}

// P1, P2: that is all that the packages have.
func TestAllCalls(t *testing.T) {
	has := map[string]bool{"object.State": true, "history.Model": true}
	for name := range functions() {
		has[name] = true
	}
	for _, x := range receivers() {
		name, _, _ := strings.Cut(strings.TrimPrefix(reflect.TypeOf(x).String(), "*"), "[")
		has[name] = true
	}
	files, err := filepath.Glob("../*/*.go")
	if err != nil {
		t.Fatal(err)
	}
	found := 0
	for _, path := range files {
		a, err := parser.ParseFile(token.NewFileSet(), path, nil, 0)
		if err != nil {
			t.Fatal(err)
		}
		if p := a.Name.Name; strings.HasSuffix(path, "_test.go") || p == "api" || p == "half" {
			continue
		}
		for _, d := range a.Decls {
			f, ok := d.(*ast.FuncDecl)
			if !ok || !f.Name.IsExported() {
				continue
			}
			name := f.Name.Name
			if f.Recv != nil {
				name = receiver(f.Recv.List[0].Type)
			}
			if !ast.IsExported(name) {
				continue
			}
			if found++; !has[a.Name.Name+"."+name] {
				t.Errorf("%s.%s isn't called", a.Name.Name, name)
			}
		}
	}
	if found < 200 {
		t.Errorf("only %d calls", found)
	}
}

// receiver is the name of the type that a method is of.
func receiver(x ast.Expr) string {
	switch y := x.(type) {
	case *ast.StarExpr:
		return receiver(y.X)
	case *ast.IndexExpr:
		return receiver(y.X)
	case *ast.Ident:
		return y.Name
	}
	return ""
}
