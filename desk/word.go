package desk

import (
	"strconv"
	"strings"

	"millpond/api"
	"millpond/ask"
	"millpond/plan"
)

// number is the one that a word is.
func number(word string) int64 {
	n, err := strconv.ParseInt(word, 10, 64)
	// Written again, it shows a sign or a nought ahead that may not be there.
	need(err == nil && strconv.FormatInt(n, 10) == word)
	return n
}

// valueOf is the value that a word is. Whether a text may be is asked where it is to stand.
func valueOf(word string) api.Value {
	if word == "null" {
		return api.Value{}
	}
	rest, opened := strings.CutPrefix(word, "'")
	if text, closed := strings.CutSuffix(rest, "'"); opened && closed {
		return api.Value{Kind: api.Text, Text: strings.ReplaceAll(text, "_", " ")}
	}
	return api.Value{Kind: api.Int, Num: number(word)}
}

func valuesOf(words []string) []api.Value {
	var l []api.Value
	for _, word := range words {
		l = append(l, valueOf(word))
	}
	return l
}

// columnOf is the column that a word is. Whether it may be called so is asked where it is to stand.
func columnOf(word string) api.Column {
	var c api.Column
	head, behind, known := strings.Cut(word, "=")
	head, c.Must = strings.CutSuffix(head, "!")
	name, kind, _ := strings.Cut(head, ":")
	need(name != "")
	c.Name, c.Kind = name, kindOf(kind)
	if known {
		c.Default = valueOf(behind)
	}
	return c
}

func columnsOf(words []string) []api.Column {
	var l []api.Column
	for _, word := range words {
		l = append(l, columnOf(word))
	}
	return l
}

// kindOf is the kind that a word is.
func kindOf(word string) int {
	if word == "int" {
		return api.Int
	}
	need(word == "text")
	return api.Text
}

// setsOf are what columns become, one a word.
func setsOf(words []string) []plan.Set {
	var l []plan.Set
	for _, word := range words {
		name, behind, _ := strings.Cut(word, "=")
		need(name != "")
		l = append(l, plan.Set{Column: name, Value: valueOf(behind)}) // nothing behind is no value, so that a word without = is none of them
	}
	return l
}

// condOf is the condition that words are together.
func condOf(words []string) *api.Cond {
	return got(ask.Cond(together(words)))
}

func together(words []string) string { return strings.Join(words, " ") }
