package ask

import (
	"strings"

	"millpond/api"
)

// Kinds of tokens.
const (
	atEnd = iota // no token any more
	aWord
	aNumber
	aText
	aMark
)

// token is a part of a text (of a TEXT what stands between the two '), where it stands, and, if it is a mark between a column and a value, the code of what it asks.
type token struct {
	kind  int
	text  string
	place int
	code  int
}

// sign is a mark, and what it asks of a column and a value (0: nothing).
type sign struct {
	text string
	code int
}

// marks stand in the order in which they are looked for: ahead of a mark those that begin with it.
var marks = [...]sign{
	{"<>", api.Ne}, {"<=", api.Le}, {">=", api.Ge}, {"=", api.Eq}, {"<", api.Lt}, {">", api.Gt},
	{"(", 0}, {")", 0}, {",", 0}, {"*", 0},
}

// tokens are those of a text, and behind them one that stands for its end, so that there is always one to look at.
func tokens(s string) []token {
	var l []token
	for place := 0; ; {
		place += run(s[place:], func(letter rune) bool { return letter == ' ' })
		if place == len(s) {
			return append(l, token{kind: atEnd, place: place})
		}
		t, length := first(s[place:])
		if length == 0 {
			throw(api.ErrForm, place)
		}
		if len(l) == api.MaxTokens {
			throw(api.ErrLimit, place)
		}
		t.place = place
		l = append(l, t)
		place += length
	}
}

// first is the token with which a text begins, and how many bytes it takes there (0: there is none such).
func first(s string) (token, int) {
	small := func(letter rune) bool { return letter >= 'a' && letter <= 'z' }
	digit := func(letter rune) bool { return letter >= '0' && letter <= '9' }
	if run(s, small) > 0 {
		n := run(s, func(letter rune) bool { return small(letter) || digit(letter) || letter == '_' })
		return token{kind: aWord, text: s[:n]}, n
	}
	unsigned := strings.TrimPrefix(s, "-")
	if n := run(unsigned, digit); n > 0 {
		n += len(s) - len(unsigned)
		return token{kind: aNumber, text: s[:n]}, n
	}
	if text, ok := quoted(s); ok {
		return token{kind: aText, text: text}, len(text) + 2
	}
	for _, m := range marks {
		if strings.HasPrefix(s, m.text) {
			return token{kind: aMark, text: m.text, code: m.code}, len(m.text)
		}
	}
	return token{}, 0
}

// run is how many bytes a text begins with whose letters may all be so.
func run(s string, may func(letter rune) bool) int {
	return len(s) - len(strings.TrimLeftFunc(s, may))
}

// quoted is what stands between the two ' with which a text begins.
func quoted(s string) (string, bool) {
	rest, opened := strings.CutPrefix(s, "'")
	text, _, closed := strings.Cut(rest, "'")
	return text, opened && closed
}

// markOf is the mark that asks for a code (empty: none does).
func markOf(code int) string {
	for _, m := range marks {
		if code != 0 && m.code == code {
			return m.text
		}
	}
	return ""
}
