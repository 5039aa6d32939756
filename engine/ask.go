package engine

import (
	"hindsight/api"
	"hindsight/command"
	"hindsight/fault"
	"hindsight/proc"
	"hindsight/wire"
)

// The kinds of asks.
const (
	Change = 1 // C is to be done
	AsOf   = 2 // version V of line B
	Head   = 3 // over all commands of line B
	Leaf   = 4 // the proof of command V among N of line B
	Prefix = 5 // the proof of the first V among N of line B
)

// Ask is what a client wants of a process.
type Ask struct {
	Kind    int
	C       command.Command
	B, V, N int
}

// Text: its bytes.
func (a Ask) Text() string {
	var w wire.Writer
	w.Num(uint64(max(a.Kind, 0)))
	if a.Kind == Change {
		return w.Str(a.C.Text()).Text()
	}
	return w.Int(a.B).Int(a.V).Int(a.N).Text()
}

// Check: may it be?
func (a Ask) Check() api.Errno {
	switch {
	case a.Kind < Change || a.Kind > Prefix:
		return api.ErrKind
	case a != a.told():
		return api.ErrForm
	case a.Kind == Change:
		return a.C.Check()
	}
	return api.OK
}

// Parse: and back.
func Parse(s string) (Ask, error) {
	r := wire.Read(s)
	a := Ask{Kind: r.Upto(Prefix)}
	if a.Kind == Change {
		a.C = takeCommand(r)
	} else {
		a.B = r.Int()
		a.V = r.Int()
		a.N = r.Int()
	}
	if a.Kind == 0 {
		r.Fail(api.ErrKind) // what was wrong with the bytes came first, and stays
	}
	if e := r.End(); e != api.OK {
		return Ask{}, fault.In(stepAsk, len(s), e)
	}
	return a, nil
}

// Reply: an answer's bytes: an error's number, and what there is.
func Reply(e api.Errno, s string) string {
	var w wire.Writer
	return w.Num(uint64(max(e, api.OK))).Str(s).Text()
}

// takeCommand takes a command that stands there as a text.
func takeCommand(r *wire.Reader) command.Command {
	s := r.Str(proc.MostBody)
	c, err := command.Parse(s)
	if err != nil {
		r.Fail(fault.Of(err)) // where it is no text, that came first, and stays
	}
	return c
}

// told is what an ask of its kind speaks of; all else of it is zero.
func (a Ask) told() Ask {
	if a.Kind == Change {
		return Ask{Kind: a.Kind, C: a.C}
	}
	return Ask{Kind: a.Kind, B: a.B, V: a.V, N: a.N}
}
