package script

// The letters of a form.
const (
	aNumber   = 'n'
	aWord     = 'w'
	anAccount = 'a' // a word, or what stands for the house
)

// house is how the account of the empty name is written.
const house = "-"

// mostDigits is how many a number has at most.
const mostDigits = 7

// words are what a verb's words say, each kind in its order; zeros behind them.
type words struct {
	numbers [3]int
	names   [2]string
}

// read takes words as a form's letters say; false: there are more or less of them, or one isn't what it should be.
func read(form string, l []string) (words, bool) {
	if len(l) != len(form) {
		return words{}, false
	}
	var w words
	numbers, names := 0, 0
	for i, letter := range form {
		ok := false
		switch letter {
		case aNumber:
			w.numbers[numbers], ok = readNumber(l[i])
			numbers++
		case aWord:
			w.names[names], ok = readWord(l[i])
			names++
		case anAccount:
			w.names[names], ok = readAccount(l[i])
			names++
		}
		if !ok {
			return words{}, false
		}
	}
	return w, true
}

// readNumber is the number that a word is; false: it is none.
func readNumber(s string) (int, bool) {
	if s == "" || len(s) > mostDigits || len(s) > 1 && s[0] == '0' {
		return 0, false
	}
	n := 0
	for _, c := range s {
		if !isDigit(c) {
			return 0, false
		}
		n = 10*n + int(c-'0')
	}
	return n, true
}

// readWord is the word itself; false: it isn't of letters and digits alone, and one at least.
func readWord(s string) (string, bool) {
	for _, c := range s {
		if !isDigit(c) && (c < 'a' || c > 'z') {
			return "", false
		}
	}
	return s, s != ""
}

// readAccount is likewise the name of an account; the house's is empty.
func readAccount(s string) (string, bool) {
	if s == house {
		return "", true
	}
	return readWord(s)
}

// isDigit: is it one of ten?
func isDigit(c rune) bool {
	return c >= '0' && c <= '9'
}
