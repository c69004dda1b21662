package ask_test

import (
	"math"
	"reflect"
	"strings"
	"testing"

	"millpond/api"
	"millpond/ask"
)

// wantPrint says whether a text, as a condition, is written so, and is the same condition then.
func wantPrint(t *testing.T, s, want string) {
	t.Helper()
	c, err := ask.Cond(s)
	if err != nil {
		t.Fatalf("%q: %v", s, err)
	}
	if got := ask.Print(c); got != want {
		t.Errorf("%q is written %q, not %q", s, got, want)
	}
	wantCond(t, want, c)
}

// 9.2: how a condition is written.
func TestPrint(t *testing.T) {
	for s, want := range map[string]string{
		"":                                      "",
		"  ":                                    "",
		"not(a=1 or b is not null)and c<>'x y'": "not (a = 1 or b is not null) and c <> 'x y'",

		"a=1":               "a = 1",
		"a<>-1":             "a <> -1",
		"a<0":               "a < 0",
		"a<='x'":            "a <= 'x'",
		"a>''":              "a > ''",
		"a>=null":           "a >= null",
		"a  is  null":       "a is null",
		"a is   not null":   "a is not null",
		"a=007":             "a = 7",
		"a=-0":              "a = 0",
		"a='  x  '":         "a = '  x  '",
		"a='(x and y)'":     "a = '(x and y)'",
		"((a=1))":           "a = 1",
		"not(a=1)":          "not a = 1",
		"not((a is null))":  "not a is null",
		"not(not(a=1))":     "not not a = 1",
		"not not (not a=1)": "not not not a = 1",

		"(a=1)and(b=2)":                  "a = 1 and b = 2",
		"(a=1 and b=2) and c=3":          "a = 1 and b = 2 and c = 3",
		"a=1 and (b=2 and c=3)":          "a = 1 and (b = 2 and c = 3)",
		"(a=1 or b=2) or c=3":            "a = 1 or b = 2 or c = 3",
		"a=1 or (b=2 or c=3)":            "a = 1 or (b = 2 or c = 3)",
		"(a=1 and b=2) or (c=3 and d=4)": "a = 1 and b = 2 or c = 3 and d = 4",
		"(a=1 or b=2) and (c=3 or d=4)":  "(a = 1 or b = 2) and (c = 3 or d = 4)",
		"(a=1 or b=2) and c=3":           "(a = 1 or b = 2) and c = 3",
		"a=1 and(b=2 or c=3)and d=4":     "a = 1 and (b = 2 or c = 3) and d = 4",
		"not(a=1 and b=2)":               "not (a = 1 and b = 2)",
		"not(a=1 or b=2)":                "not (a = 1 or b = 2)",
		"(not a=1)and(not b=2)":          "not a = 1 and not b = 2",
		"not((a=1 or b=2)and c=3)":       "not ((a = 1 or b = 2) and c = 3)",
		"not(not(a=1 or b=2))or(c=3)":    "not not (a = 1 or b = 2) or c = 3",
	} {
		wantPrint(t, s, want)
	}
	if got := ask.Print(nil); got != "" {
		t.Errorf("nil is written %q", got)
	}
}

// drawn is a condition, of at most so many parts within one another.
func drawn(d *die, deep int) *api.Cond {
	if deep > 0 && d.n(4) > 0 {
		switch d.n(3) {
		case 0:
			return not(drawn(d, deep-1))
		case 1:
			return and(drawn(d, deep-1), drawn(d, deep-1))
		}
		return or(drawn(d, deep-1), drawn(d, deep-1))
	}
	column := []string{"a", "b_1", "count", "nnnnnnnnnnnnnnnn"}[d.n(4)]
	code := api.Eq + d.n(8)
	if code >= api.IsNull {
		return leaf(code, column, null)
	}
	return leaf(code, column, []api.Value{null, num(0), num(math.MaxInt64), num(math.MinInt64), text(""), text("x y"), text("not (")}[d.n(7)])
}

// bracketed is a condition as a text, each part that has parts between ( and ) , by other means than the program's.
func bracketed(c *api.Cond) string {
	switch c.Code {
	case api.Not:
		return "not " + bracketed(c.Left)
	case api.And:
		return "(" + bracketed(c.Left) + " and " + bracketed(c.Right) + ")"
	case api.Or:
		return "(" + bracketed(c.Left) + " or " + bracketed(c.Right) + ")"
	}
	return ask.Print(c)
}

// 9.2: what is written asks just what it asked; and no ( stands there that need not.
func TestPrintReads(t *testing.T) {
	d := die(3)
	many := 0
	for range 4000 {
		c := drawn(&d, 4)
		told, err := ask.Cond(bracketed(c))
		if err != nil { // more than MaxDepth, or MaxTokens
			wantErr(t, bracketed(c), err, api.ErrLimit, err.(*api.At).Place)
			continue
		}
		many++
		if !reflect.DeepEqual(told, c) {
			t.Fatalf("%q is %q", bracketed(c), ask.Print(told))
		}
		s := ask.Print(c)
		wantCond(t, s, c)
		wantNeeded(t, s, c)
	}
	if many < 1000 {
		t.Errorf("only %d conditions were read", many)
	}
}

// wantNeeded says whether a text of a condition is another one, or none, if any ( and its ) are left out.
func wantNeeded(t *testing.T, s string, c *api.Cond) {
	t.Helper()
	var open []int
	inText := false
	for i, letter := range s {
		inText = inText != (letter == '\'')
		switch {
		case inText:
		case letter == '(':
			open = append(open, i)
		case letter == ')':
			from := open[len(open)-1]
			open = open[:len(open)-1]
			less := s[:from] + s[from+1:i] + s[i+1:]
			if told, err := ask.Cond(less); err == nil && reflect.DeepEqual(told, c) {
				t.Errorf("%q is the same as %q", less, s)
			}
		}
	}
}

// 9.2: the deepest conditions that a text may tell are written as well.
func TestPrintDeep(t *testing.T) {
	for _, s := range []string{
		strings.Repeat("not ", api.MaxDepth) + "a = 1" + strings.Repeat(" and a = 1", 17),
		strings.Repeat("not ", api.MaxDepth-1) + "a = 1" + strings.Repeat(" and a = 1", 18),
		"not not not (a = 1" + strings.Repeat(" or a = 1", 17) + ")",
		"not not (" + "a = 1" + strings.Repeat(" and a = 1", 5) + " and (b = 1 or b = 1 and (c = 1 and (d = 1 or d = 1))))",
		"a is not null" + strings.Repeat(" or a = 1", 19),
	} {
		c, err := ask.Cond(s)
		if err != nil || ask.Print(c) != s {
			t.Errorf("%q, %v, is written %q", s, err, ask.Print(c))
		}
	}
}

// P1: Print ends also of what Cond never told: what goes round, has no code, or lacks parts.
func TestPrintWhatever(t *testing.T) {
	left, right := not(nil), and(nil, nil)
	left.Left, right.Right = left, right
	deep, wide := leaf(api.Eq, "a", num(1)), leaf(api.Eq, "a", num(1))
	for range 1 << 12 {
		deep = not(deep)
	}
	for range 64 {
		wide = or(wide, wide)
	}
	for _, c := range []*api.Cond{left, right, deep, wide} {
		if got := ask.Print(c); got != "" {
			t.Errorf("what Cond told nowhere is written %.100q", got)
		}
	}
	for _, code := range []int{0, -1, api.Not + 1, math.MaxInt, math.MinInt} {
		ask.Print(leaf(code, "a", num(1)))
		ask.Print(leaf(api.Eq, "\xff", api.Value{Kind: code, Text: "\xff"}))
	}
	for _, c := range []*api.Cond{{}, not(nil), and(nil, nil), or(nil, leaf(api.Eq, "", null)), not(or(nil, nil))} {
		ask.Print(c)
	}
}

// P4: Print writes into no condition, and tells the same each time.
func TestPrintKeepsOff(t *testing.T) {
	made := func() *api.Cond {
		return not(or(and(leaf(api.Eq, "a", num(1)), leaf(api.IsNull, "b", null)), leaf(api.Lt, "c", text("x"))))
	}
	c := made()
	if first, again := ask.Print(c), ask.Print(c); first != again || !reflect.DeepEqual(c, made()) {
		t.Errorf("%q, and then %q, of %+v", first, again, c)
	}
}
