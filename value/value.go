// Package value: values, and their order.
package value

import (
	"cmp"
	"strconv"
	"strings"

	"millpond/api"
	"millpond/guard"
)

// Right says whether a value may be: nothing, a number, or a text of at most MaxLetters bytes from 32 to 126, but '; all else of it zero.
func Right(v api.Value) (_ bool) {
	switch v.Kind {
	case api.Null:
		return v.Num == 0 && v.Text == ""
	case api.Int:
		return v.Text == ""
	case api.Text:
		return v.Num == 0 && rightText(v.Text)
	}
	return false
}

// rightText may look at runes where the document says bytes: a byte above 126, alone or with others, is read as a rune above 126.
func rightText(s string) bool {
	return len(s) <= api.MaxLetters && !strings.ContainsFunc(s, func(letter rune) bool {
		return letter < 32 || letter > 126 || letter == '\''
	})
}

// Compare is the order of values: nothing, numbers, texts byte by byte.
func Compare(a, b api.Value) (_ int) {
	return cmp.Or(cmp.Compare(a.Kind, b.Kind), cmp.Compare(a.Num, b.Num), cmp.Compare(a.Text, b.Text))
}

// Print writes a value: null, a number, a text between two '.
func Print(v api.Value) (_ string) {
	switch v.Kind {
	case api.Null:
		return "null"
	case api.Int:
		return strconv.FormatInt(v.Num, 10)
	case api.Text:
		return "'" + v.Text + "'"
	}
	return ""
}

// Is is what a code asks of two values: 1, 0, or, if one is nothing, or they are of two kinds, -1.
func Is(code int, a, b api.Value) (_ int) {
	if a.Kind == api.Null || a.Kind != b.Kind {
		return -1
	}
	return number(stands(code, Compare(a, b)))
}

// stands says whether an order, as Compare tells it, is one that a code asks for.
func stands(code, order int) bool {
	switch code {
	case api.Eq:
		return order == 0
	case api.Ne:
		return order != 0
	case api.Lt:
		return order < 0
	case api.Le:
		return order <= 0
	case api.Gt:
		return order > 0
	case api.Ge:
		return order >= 0
	}
	return false
}

func number(b bool) int {
	if b {
		return 1
	}
	return 0
}

// Holds is what a condition comes to, of a row: 1, 0, or -1 (it is not known); nil holds always.
func Holds(c *api.Cond, get func(column string) api.Value) (_ int) {
	if !guard.Ends(c) {
		return 0
	}
	return holds(c, get)
}

func holds(c *api.Cond, get func(column string) api.Value) int {
	if c == nil {
		return 1
	}
	switch c.Code {
	case api.IsNull:
		return number(guard.Told(get, c.Column).Kind == api.Null)
	case api.NotNull:
		return number(guard.Told(get, c.Column).Kind != api.Null)
	case api.Not:
		return not(holds(c.Left, get))
	case api.And:
		return and(holds(c.Left, get), holds(c.Right, get))
	case api.Or:
		return or(holds(c.Left, get), holds(c.Right, get))
	}
	return Is(c.Code, guard.Told(get, c.Column), c.Value)
}

func not(n int) int {
	if n == -1 {
		return -1
	}
	return 1 - n
}

// and needs only the lesser of two once neither is 0: what is left is -1 and 1.
func and(a, b int) int {
	if a == 0 || b == 0 {
		return 0
	}
	return min(a, b)
}

// or needs only the lesser of two once neither is 1: what is left is -1 and 0.
func or(a, b int) int {
	if a == 1 || b == 1 {
		return 1
	}
	return min(a, b)
}
