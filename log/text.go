package log

import (
	"iter"
	"strconv"
	"strings"

	"millpond/api"
	"millpond/schema"
	"millpond/value"
)

// Print writes a commit, a line each: who, and whether it hangs on all; then each action. ErrArg: it may not be: who is called otherwise, or an action's parts may not be by themselves.
func Print(c api.Commit) (_ string, _ error) {
	if !schema.Name(c.Tx) {
		return "", api.ErrArg
	}
	var b strings.Builder
	b.WriteString("commit " + c.Tx + " " + either(c.Reads, "reads", "blind") + "\n")
	for _, a := range c.Actions {
		if !right(a) {
			return "", api.ErrArg
		}
		b.WriteString(line(a) + "\n")
	}
	return b.String(), nil
}

// either is one of two words.
func either(is bool, word, other string) string {
	if is {
		return word
	}
	return other
}

// right says whether an action may be by itself, and has nothing that its line would not tell.
func right(a api.Action) bool {
	rest, may := a, false
	switch a.Kind {
	case api.Add:
		may = rightFile(a)
		rest.Path, rest.Rows = "", 0
	case api.Remove:
		may = schema.Name(a.Path)
		rest.Path = ""
	case api.Mask:
		may = schema.Name(a.Path) && rising(a.Mask, api.MaxRows)
		rest.Path, rest.Mask = "", nil
	case api.Schema:
		may = schema.Right(a.Columns, a.Next)
		rest.Columns, rest.Next = nil, 0
	}
	return may && bare(rest)
}

// bare says whether an action has nothing but its kind.
func bare(a api.Action) bool {
	return a.Path == "" && a.Rows == 0 && len(a.Mask) == 0 && len(a.Columns) == 0 && a.Next == 0
}

// line is an action that is right, as a text.
func line(a api.Action) string {
	switch a.Kind {
	case api.Add:
		return "add " + a.Path + " " + strconv.Itoa(a.Rows)
	case api.Remove:
		return "remove " + a.Path
	case api.Mask:
		return "mask " + a.Path + " " + joined(a.Mask, ",", strconv.Itoa)
	}
	return "schema " + strconv.Itoa(a.Next) + " " + joined(a.Columns, ";", column)
}

// joined are the texts of a list's things, a mark between two.
func joined[T any](l []T, mark string, text func(T) string) string {
	var texts []string
	for _, thing := range l {
		texts = append(texts, text(thing))
	}
	return strings.Join(texts, mark)
}

// column is a column as a text.
func column(c api.Column) string {
	return strings.Join([]string{
		strconv.Itoa(c.ID), c.Name, strconv.Itoa(c.Kind), either(c.Must, "must", "may"), value.Print(c.Default),
	}, " ")
}

// Parse reads a commit, as Print writes it. ErrForm.
func Parse(s string) (_ api.Commit, _ error) {
	c, ok := read(s)
	if !ok {
		return api.Commit{}, api.ErrForm
	}
	// What is read need not be strict: it is written again, and must come to the same text.
	if again, err := Print(c); err != nil || again != s {
		return api.Commit{}, api.ErrForm
	}
	return c, nil
}

// read is the commit that a text tells, if it tells one: no other one may be written so.
func read(s string) (api.Commit, bool) {
	head, rest, _ := strings.Cut(s, "\n")
	_, who, _ := strings.Cut(head, " ")
	tx, how, _ := strings.Cut(who, " ")
	c := api.Commit{Tx: tx, Reads: how == "reads"}
	for text := range strings.Lines(rest) {
		a, ok := readAction(strings.TrimSuffix(text, "\n"))
		if !ok {
			return api.Commit{}, false
		}
		c.Actions = append(c.Actions, a)
	}
	return c, true
}

// readAction is the action that a line tells.
func readAction(line string) (api.Action, bool) {
	word, rest, _ := strings.Cut(line, " ")
	first, last, _ := strings.Cut(rest, " ")
	switch word {
	case "add":
		rows, err := strconv.Atoi(last)
		return api.Action{Kind: api.Add, Path: first, Rows: rows}, err == nil
	case "remove":
		return api.Action{Kind: api.Remove, Path: first}, true
	case "mask":
		places, ok := readPlaces(last)
		return api.Action{Kind: api.Mask, Path: first, Mask: places}, ok
	case "schema":
		next, err := strconv.Atoi(first)
		l, ok := readColumns(last)
		return api.Action{Kind: api.Schema, Columns: l, Next: next}, ok && err == nil
	}
	return api.Action{}, false
}

// readPlaces are the places that a text tells.
func readPlaces(s string) ([]int, bool) {
	var l []int
	for place, err := range numbers(s) {
		if err != nil {
			return nil, false
		}
		l = append(l, place)
	}
	return l, true
}

// numbers are those between the commas of a text, an error beside what is none.
func numbers(s string) iter.Seq2[int, error] {
	return func(yield func(int, error) bool) {
		for part := range strings.SplitSeq(s, ",") {
			if !yield(strconv.Atoi(part)) {
				return
			}
		}
	}
}

// readColumns are the columns that a text tells.
func readColumns(s string) ([]api.Column, bool) {
	var l []api.Column
	for s != "" {
		c, behind, ok := readColumn(s)
		if !ok {
			return nil, false
		}
		l, s = append(l, c), behind
	}
	return l, true
}

// readColumn is the column with which a text begins, and what comes behind it and its mark.
func readColumn(s string) (_ api.Column, behind string, ok bool) {
	var words [4]string
	for i := range words {
		words[i], s, _ = strings.Cut(s, " ")
	}
	id, wrongID := strconv.Atoi(words[0])
	kind, wrongKind := strconv.Atoi(words[2])
	v, behind, ok := readValue(s)
	c := api.Column{ID: id, Name: words[1], Kind: kind, Must: words[3] == "must", Default: v}
	return c, behind, ok && wrongID == nil && wrongKind == nil
}

// readValue is the value with which a text begins, and what comes behind it and its mark: within a text of its own that mark is a letter as others are.
func readValue(s string) (_ api.Value, behind string, ok bool) {
	if rest, quoted := strings.CutPrefix(s, "'"); quoted {
		text, behind, closed := strings.Cut(rest, "'")
		return api.Value{Kind: api.Text, Text: text}, strings.TrimPrefix(behind, ";"), closed
	}
	word, behind, _ := strings.Cut(s, ";")
	if word == "null" {
		return api.Value{}, behind, true
	}
	n, err := strconv.ParseInt(word, 10, 64)
	return api.Value{Kind: api.Int, Num: n}, behind, err == nil
}
