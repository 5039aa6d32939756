package script

import (
	"hindsight/command"
	"hindsight/engine"
	"hindsight/ledger"
	"hindsight/object"
	"hindsight/stock"
	"hindsight/text"
)

// verb is what can be asked: the form of its words, a letter for each; the ask that they make.
type verb struct {
	form string
	ask  maker
}

// maker makes an ask of a verb's words, the first of which is a line's number.
type maker func(w words) engine.Ask

// verbs are all of them, by their words.
func verbs() map[string]verb {
	return map[string]verb{
		"insert":  {"nnw", edits(text.Insert)},
		"delete":  {"nnn", edits(text.Delete)},
		"open":    {"nw", books(ledger.Open)},
		"close":   {"nw", books(ledger.Close)},
		"move":    {"naan", books(ledger.Move)},
		"add":     {"nwn", stocks(stock.Add)},
		"take":    {"nwn", stocks(stock.Take)},
		"undo":    {"nn", turns(command.Undo)},
		"fork":    {"nn", turns(command.Fork)},
		"retain":  {"nn", turns(command.Retain)},
		"forward": {"nn", forwards},
		"asof":    {"nn", reads(engine.AsOf)},
		"head":    {"n", reads(engine.Head)},
		"leaf":    {"nnn", reads(engine.Leaf)},
		"prefix":  {"nnn", reads(engine.Prefix)},
	}
}

// edits makes Changes of a document, of a kind: at the second number; what comes in, or how many bytes go.
func edits(kind int) maker {
	return func(w words) engine.Ask {
		o := text.Op{Kind: kind, At: w.numbers[1], S: w.names[0], N: w.numbers[2]}
		return does(w, object.Op{Kind: object.Text, Text: o})
	}
}

// books makes Changes of a ledger, of a kind.
func books(kind int) maker {
	return func(w words) engine.Ask {
		o := ledger.Op{Kind: kind, Name: w.names[0], To: w.names[1], Amount: w.numbers[1]}
		return does(w, object.Op{Kind: object.Ledger, Ledger: o})
	}
}

// stocks makes Changes of a shelf, of a kind.
func stocks(kind int) maker {
	return func(w words) engine.Ask {
		o := stock.Op{Kind: kind, Name: w.names[0], N: w.numbers[1]}
		return does(w, object.Op{Kind: object.Stock, Stock: o})
	}
}

// turns makes Changes of a kind that speaks of a line's command, or version.
func turns(kind int) maker {
	return func(w words) engine.Ask {
		return changes(command.Command{Kind: kind, B: w.numbers[0], N: w.numbers[1]})
	}
}

// forwards is the Change that lets a line be what another one is.
func forwards(w words) engine.Ask {
	return changes(command.Command{Kind: command.Forward, B: w.numbers[0], A: w.numbers[1]})
}

// reads makes asks of a kind that reads.
func reads(kind int) maker {
	return func(w words) engine.Ask {
		return engine.Ask{Kind: kind, B: w.numbers[0], V: w.numbers[1], N: w.numbers[2]}
	}
}

// does is the Change by which an op is done.
func does(w words, o object.Op) engine.Ask {
	return changes(command.Command{Kind: command.Do, B: w.numbers[0], Op: o})
}

// changes is the ask that a command be done.
func changes(c command.Command) engine.Ask {
	return engine.Ask{Kind: engine.Change, C: c}
}
