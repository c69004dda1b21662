package schema_test

import (
	"errors"
	"math"
	"reflect"
	"slices"
	"strconv"
	"strings"
	"testing"

	"millpond/api"
	"millpond/schema"
)

var null = api.Value{}

func num(n int64) api.Value { return api.Value{Kind: api.Int, Num: n} }

func text(s string) api.Value { return api.Value{Kind: api.Text, Text: s} }

func list(l ...api.Value) []api.Value { return l }

func columns(l ...api.Column) []api.Column { return l }

// numbers is a column of numbers, words one of texts; neither must be something.
func numbers(id int, name string) api.Column {
	return api.Column{ID: id, Name: name, Kind: api.Int}
}

func words(id int, name string) api.Column {
	return api.Column{ID: id, Name: name, Kind: api.Text}
}

// must is the column, that must be something, and is v in older rows.
func must(c api.Column, v api.Value) api.Column {
	c.Must, c.Default = true, v
	return c
}

// alikeColumns are so many columns, numbered from 1 on.
func alikeColumns(n int) []api.Column {
	var l []api.Column
	for i := range n {
		l = append(l, numbers(i+1, "c"+strconv.Itoa(i)))
	}
	return l
}

var wordsThatAreNone = []string{"and", "is", "not", "null", "or"}

// wrongNames are those that no column and no file has.
func wrongNames() []string {
	l := []string{
		"", "_", "_a", "1", "1a", "A", "aB", "Ab", "a b", " a", "a ", "a-b", "a.b", "a'", "a\n", "a\x00",
		"é", "aé", "水", "a\xff", "\xffa", "a\uFFFD", strings.Repeat("n", api.MaxName+1), strings.Repeat("n", 1000),
	}
	for b := range 256 {
		if b == '_' || b >= '0' && b <= '9' || b >= 'a' && b <= 'z' {
			continue
		}
		l = append(l, string([]byte{byte(b)}), string([]byte{'a', byte(b)}), string([]byte{'a', byte(b), 'z'}))
	}
	return l
}

// 4.1: Name.
func TestName(t *testing.T) {
	yes := append([]string{"a", "z", "az", "a0", "a9", "a_", "a__1_z", "x_1", strings.Repeat("n", api.MaxName), "z" + strings.Repeat("_", api.MaxName-1)}, wordsThatAreNone...)
	for b := byte('a'); b <= 'z'; b++ {
		yes = append(yes, string([]byte{b}), string([]byte{'a', b}))
	}
	for b := byte('0'); b <= '9'; b++ {
		yes = append(yes, string([]byte{'a', b}))
	}
	for _, s := range yes {
		if !schema.Name(s) {
			t.Errorf("Name(%q) is false", s)
		}
	}
	no := wrongNames()
	for b := byte('0'); b <= '9'; b++ {
		no = append(no, string([]byte{b, 'a'}))
	}
	for _, s := range no {
		if schema.Name(s) {
			t.Errorf("Name(%q) is true", s)
		}
	}
}

// 4.1: which columns MAY BE, and how many of them.
func TestRight(t *testing.T) {
	for _, c := range []struct {
		name string
		l    []api.Column
		next int
		want bool
	}{
		{"nil", nil, 1, false},
		{"none", columns(), 9, false},
		{"one", columns(numbers(1, "a")), 2, true},
		{"two", columns(numbers(1, "a"), words(2, "b")), 3, true},
		{"not by number", columns(numbers(7, "b"), words(2, "a")), 8, true},
		{"next is far", columns(numbers(1, "a")), math.MaxInt, true},
		{"as many as can be", alikeColumns(api.MaxColumns), api.MaxColumns + 1, true},
		{"one too many", alikeColumns(api.MaxColumns + 1), api.MaxColumns + 2, false},
		{"the same number", columns(numbers(1, "a"), words(1, "b")), 9, false},
		{"the same number, not side by side", columns(numbers(1, "a"), words(2, "b"), numbers(1, "c")), 9, false},
		{"the same name", columns(numbers(1, "a"), words(2, "a")), 9, false},
		{"the same name, not side by side", columns(numbers(1, "a"), words(2, "b"), numbers(3, "a")), 9, false},
		{"a number that is next", columns(numbers(1, "a"), numbers(2, "b")), 2, false},
		{"a number that is next, first", columns(numbers(2, "a"), numbers(1, "b")), 2, false},
		{"a number beyond next", columns(numbers(5, "a")), 2, false},
		{"next is 0", columns(numbers(1, "a")), 0, false},
		{"next is below 0", columns(numbers(1, "a")), -1, false},
		{"a wrong one behind a right one", columns(numbers(1, "a"), api.Column{}), 9, false},
	} {
		if got := schema.Right(c.l, c.next); got != c.want {
			t.Errorf("%s: Right is %v, not %v", c.name, got, c.want)
		}
	}
}

// turned is a column of numbers of which something is told otherwise.
func turned(turn func(c *api.Column)) api.Column {
	c := numbers(1, "a")
	turn(&c)
	return c
}

// mayBe are columns that may be; mayNotBe such as differ from one in one thing.
func mayBe() map[string]api.Column {
	return map[string]api.Column{
		"numbers":           numbers(1, "a"),
		"texts":             words(1, "a"),
		"the greatest ID":   numbers(math.MaxInt-1, "a"),
		"a number":          turned(func(c *api.Column) { c.Default = num(-7) }),
		"0":                 turned(func(c *api.Column) { c.Default = num(0) }),
		"a text":            turned(func(c *api.Column) { c.Kind, c.Default = api.Text, text("x y") }),
		"an empty text":     turned(func(c *api.Column) { c.Kind, c.Default = api.Text, text("") }),
		"a long text":       turned(func(c *api.Column) { c.Kind, c.Default = api.Text, text(strings.Repeat("x", api.MaxLetters)) }),
		"must be, is":       must(numbers(1, "a"), num(1)),
		"must be, was none": must(numbers(1, "a"), null),
		"a word and more":   numbers(1, "and_"),
		"a longer word":     numbers(1, "nulls"),
		"part of a word":    numbers(1, "no"),
	}
}

func mayNotBe() map[string]api.Column {
	l := map[string]api.Column{
		"zero":                          {},
		"ID 0":                          turned(func(c *api.Column) { c.ID = 0 }),
		"ID below 0":                    turned(func(c *api.Column) { c.ID = -1 }),
		"the least ID":                  turned(func(c *api.Column) { c.ID = math.MinInt }),
		"kind Null":                     turned(func(c *api.Column) { c.Kind = api.Null }),
		"kind -1":                       turned(func(c *api.Column) { c.Kind = -1 }),
		"kind 3":                        turned(func(c *api.Column) { c.Kind = 3 }),
		"kind 3, and a default of it":   turned(func(c *api.Column) { c.Kind, c.Default.Kind = 3, 3 }),
		"a text for a number":           turned(func(c *api.Column) { c.Default = text("1") }),
		"a number for a text":           turned(func(c *api.Column) { c.Kind, c.Default = api.Text, num(1) }),
		"a default of no kind":          turned(func(c *api.Column) { c.Default.Kind = 3 }),
		"nothing, with a number":        turned(func(c *api.Column) { c.Default.Num = 1 }),
		"nothing, with a text":          turned(func(c *api.Column) { c.Default.Text = "a" }),
		"a number, with a text":         turned(func(c *api.Column) { c.Default = api.Value{Kind: api.Int, Text: "a"} }),
		"a text with a mark":            turned(func(c *api.Column) { c.Kind, c.Default = api.Text, text("it's") }),
		"a text that is too long":       turned(func(c *api.Column) { c.Kind, c.Default = api.Text, text(strings.Repeat("x", api.MaxLetters+1)) }),
		"must be, of a kind not its":    must(numbers(1, "a"), text("x")),
		"must be, with what is no text": must(words(1, "a"), text("\n")),
	}
	for _, s := range append(wrongNames(), wordsThatAreNone...) {
		l["name "+strconv.Quote(s)] = turned(func(c *api.Column) { c.Name = s })
	}
	return l
}

// 4.1: a column that MAY BE is one of a table, and none else is, wherever it stands.
func TestRightColumn(t *testing.T) {
	other := words(2, "other")
	for name, c := range mayBe() {
		if !schema.Right(columns(c), math.MaxInt) || !schema.Right(columns(c, other), math.MaxInt) || !schema.Right(columns(other, c), math.MaxInt) {
			t.Errorf("%s: Right is false", name)
		}
	}
	for name, c := range mayNotBe() {
		if schema.Right(columns(c), math.MaxInt) || schema.Right(columns(c, other), math.MaxInt) || schema.Right(columns(other, c), math.MaxInt) {
			t.Errorf("%s: Right is true", name)
		}
	}
}

// 4.1: Find.
func TestFind(t *testing.T) {
	l := columns(numbers(9, "a"), words(2, "b"), numbers(4, "ab"))
	for name, want := range map[string]int{"a": 0, "b": 1, "ab": 2, "c": -1, "": -1, "A": -1, "a ": -1, "abc": -1, "null": -1} {
		if got := schema.Find(l, name); got != want {
			t.Errorf("Find(%q) is %d, not %d", name, got, want)
		}
	}
	for _, none := range [][]api.Column{nil, columns()} {
		if got := schema.Find(none, "a"); got != -1 {
			t.Errorf("Find among none is %d", got)
		}
	}
	twice := columns(numbers(1, "x"), numbers(2, "a"), numbers(3, "a"))
	if got := schema.Find(twice, "a"); got != 1 {
		t.Errorf("Find of a name that is there twice is %d, not the first one's place", got)
	}
}

// wantErr says whether an error is just that Errno (nil, if it is OK), without a place.
func wantErr(t *testing.T, what string, err error, want api.Errno) {
	t.Helper()
	var at *api.At
	switch {
	case want == api.OK && err != nil, api.Tell(err) != want:
		t.Errorf("%s: the error is %v, not %v", what, err, want)
	case errors.As(err, &at):
		t.Errorf("%s: the error has a place: %d", what, at.Place)
	}
}

// wantColumns says whether columns are those (none, if there was an error).
func wantColumns(t *testing.T, what string, got, want []api.Column) {
	t.Helper()
	if !slices.Equal(got, want) {
		t.Errorf("%s: the columns are %+v, not %+v", what, got, want)
	}
}

// 4.2: More.
func TestMore(t *testing.T) {
	a, b := numbers(1, "a"), words(3, "b")
	full := alikeColumns(api.MaxColumns)
	for _, c := range []struct {
		name string
		l    []api.Column
		next int
		c    api.Column
		want api.Column
		err  api.Errno
	}{
		{"behind one", columns(a), 2, words(0, "b"), words(2, "b"), api.OK},
		{"behind two", columns(b, a), 4, words(0, "c"), words(4, "c"), api.OK},
		{"numbers are not used again", columns(a), 7, words(0, "b"), words(7, "b"), api.OK},
		{"whatever number it brings", columns(a), 4, words(99, "c"), words(4, "c"), api.OK},
		{"a number that is there", columns(a), 4, words(1, "c"), words(4, "c"), api.OK},
		{"a number below 0", columns(a), 4, words(-1, "c"), words(4, "c"), api.OK},
		{"the last one there is room for", full[:api.MaxColumns-1], 50, words(0, "x"), words(50, "x"), api.OK},
		{"must be, and was", columns(a), 2, must(numbers(0, "b"), num(0)), must(numbers(2, "b"), num(0)), api.OK},
		{"must be, and was an empty text", columns(a), 2, must(words(0, "b"), text("")), must(words(2, "b"), text("")), api.OK},
		{"must be, and was nothing", columns(a), 2, must(numbers(0, "b"), null), api.Column{}, api.ErrArg},
		{"next is 0", columns(), 0, numbers(5, "b"), api.Column{}, api.ErrArg},
		{"next is below 0", columns(), -3, numbers(5, "b"), api.Column{}, api.ErrArg},
		{"there is one", columns(a, b), 4, numbers(0, "b"), api.Column{}, api.ErrTwice},
		{"there is one of another kind", columns(a, b), 4, words(0, "a"), api.Column{}, api.ErrTwice},
		{"no room", full, 9, words(0, "x"), api.Column{}, api.ErrFull},
		{"too many", alikeColumns(api.MaxColumns + 1), 99, words(0, "x"), api.Column{}, api.ErrFull},
		{"there is one, ahead of no room", full, 9, words(0, "c3"), api.Column{}, api.ErrTwice},
		{"there is one, ahead of what may not be", columns(a), 2, api.Column{Name: "a", Kind: 9, Must: true}, api.Column{}, api.ErrTwice},
		{"no room, ahead of what may not be", full, 9, api.Column{Name: "A", Kind: 9, Must: true}, api.Column{}, api.ErrFull},
	} {
		got, next, err := schema.More(c.l, c.next, c.c)
		wantErr(t, c.name, err, c.err)
		if c.err != api.OK {
			wantColumns(t, c.name, got, nil)
			if next != 0 {
				t.Errorf("%s: next is %d beside an error", c.name, next)
			}
			continue
		}
		wantColumns(t, c.name, got, append(slices.Clone(c.l), c.want))
		if next != c.next+1 {
			t.Errorf("%s: next is %d, not %d", c.name, next, c.next+1)
		}
		if !schema.Right(got, next) {
			t.Errorf("%s: what comes is not Right", c.name)
		}
	}
}

// 4.2: More takes columns that MAY BE, but for their ID, and no others.
func TestMoreColumn(t *testing.T) {
	l := columns(words(2, "other"))
	for name, c := range mayBe() {
		got, next, err := schema.More(l, 3, c)
		if c.Must && c.Default.Kind == api.Null {
			wantErr(t, name, err, api.ErrArg)
			continue
		}
		c.ID = 3
		wantErr(t, name, err, api.OK)
		wantColumns(t, name, got, columns(l[0], c))
		if next != 4 {
			t.Errorf("%s: next is %d", name, next)
		}
	}
	for name, c := range mayNotBe() {
		if strings.Contains(name, "ID") {
			continue
		}
		got, next, err := schema.More(l, 3, c)
		wantErr(t, name, err, api.ErrArg)
		wantColumns(t, name, got, nil)
		if next != 0 {
			t.Errorf("%s: next is %d beside an error", name, next)
		}
	}
}

// 4.2: Less.
func TestLess(t *testing.T) {
	a, b, c := numbers(1, "a"), must(words(3, "b"), text("x")), numbers(2, "c")
	for _, x := range []struct {
		what string
		l    []api.Column
		name string
		want []api.Column
		err  api.Errno
	}{
		{"the first", columns(a, b, c), "a", columns(b, c), api.OK},
		{"in the midst", columns(a, b, c), "b", columns(a, c), api.OK},
		{"the last", columns(a, b, c), "c", columns(a, b), api.OK},
		{"one of two", columns(a, b), "a", columns(b), api.OK},
		{"not there", columns(a, b), "c", nil, api.ErrMissing},
		{"no name", columns(a, b), "", nil, api.ErrMissing},
		{"a word", columns(a, b), "null", nil, api.ErrMissing},
		{"the only one", columns(a), "a", nil, api.ErrState},
		{"not there, and there is one alone", columns(a), "b", nil, api.ErrMissing},
		{"there are none", nil, "a", nil, api.ErrMissing},
	} {
		got, err := schema.Less(x.l, x.name)
		wantErr(t, x.what, err, x.err)
		wantColumns(t, x.what, got, x.want)
	}
}

// 4.2: Rename.
func TestRename(t *testing.T) {
	a, b, c := numbers(1, "a"), must(words(3, "b"), text("x")), numbers(2, "c")
	long := strings.Repeat("n", api.MaxName)
	called := func(c api.Column, name string) api.Column {
		c.Name = name
		return c
	}
	for _, x := range []struct {
		what, name, to string
		want           []api.Column
		err            api.Errno
	}{
		{"the first", "a", "e", columns(called(a, "e"), b, c), api.OK},
		{"in the midst", "b", "x_1", columns(a, called(b, "x_1"), c), api.OK},
		{"the last", "c", long, columns(a, b, called(c, long)), api.OK},
		{"nearly a word", "c", "nulls", columns(a, b, called(c, "nulls")), api.OK},
		{"not there", "d", "e", nil, api.ErrMissing},
		{"not there, by no name", "", "e", nil, api.ErrMissing},
		{"not there, ahead of no name", "d", "1", nil, api.ErrMissing},
		{"not there, ahead of one that is", "d", "a", nil, api.ErrMissing},
		{"there is one", "a", "b", nil, api.ErrTwice},
		{"there is one ahead of it", "c", "a", nil, api.ErrTwice},
		{"its own name", "b", "b", nil, api.ErrTwice},
	} {
		got, err := schema.Rename(columns(a, b, c), x.name, x.to)
		wantErr(t, x.what, err, x.err)
		wantColumns(t, x.what, got, x.want)
	}
	for _, to := range append(wrongNames(), wordsThatAreNone...) {
		got, err := schema.Rename(columns(a, b, c), "b", to)
		wantErr(t, "to "+strconv.Quote(to), err, api.ErrArg)
		wantColumns(t, "to "+strconv.Quote(to), got, nil)
	}
	_, err := schema.Rename(nil, "a", "b")
	wantErr(t, "there are none", err, api.ErrMissing)
}

// 4.2: what is no name, and there yet (columns that are not Right), is ErrArg first.
func TestRenameOrder(t *testing.T) {
	_, err := schema.Rename(columns(numbers(1, "a"), numbers(2, "A")), "a", "A")
	wantErr(t, "to what is no name, and is there", err, api.ErrArg)
}

// 4.2: Row.
func TestRow(t *testing.T) {
	l := columns(numbers(1, "n"), words(2, "t"), must(numbers(3, "m"), null))
	for _, c := range []struct {
		name string
		row  []api.Value
		want api.Errno
	}{
		{"all of them", list(num(1), text("a"), num(2)), api.OK},
		{"edges", list(num(math.MinInt64), text(strings.Repeat("x", api.MaxLetters)), num(math.MaxInt64)), api.OK},
		{"nothing where it may be", list(null, null, num(2)), api.OK},
		{"0 and an empty text are something", list(num(0), text(""), num(0)), api.OK},
		{"no values", nil, api.ErrArg},
		{"too few", list(num(1), text("a")), api.ErrArg},
		{"too many", list(num(1), text("a"), num(2), null), api.ErrArg},
		{"nothing where something must be", list(num(1), text("a"), null), api.ErrMissing},
		{"nothing at all", list(null, null, null), api.ErrMissing},
		{"a text for a number", list(text("1"), text("a"), num(2)), api.ErrArg},
		{"a number for a text", list(num(1), num(1), num(2)), api.ErrArg},
		{"a text for what must be a number", list(num(1), text("a"), text("2")), api.ErrArg},
		{"of no kind", list(num(1), text("a"), api.Value{Kind: 3}), api.ErrArg},
		{"of a kind below 0", list(api.Value{Kind: -1}, text("a"), num(2)), api.ErrArg},
		{"nothing with a number", list(api.Value{Num: 1}, text("a"), num(2)), api.ErrArg},
		{"nothing with a text, where something must be", list(num(1), text("a"), api.Value{Text: "x"}), api.ErrArg},
		{"a number with a text", list(api.Value{Kind: api.Int, Text: "x"}, text("a"), num(2)), api.ErrArg},
		{"a text with a number", list(num(1), api.Value{Kind: api.Text, Num: 1}, num(2)), api.ErrArg},
		{"a text with a mark", list(num(1), text("it's"), num(2)), api.ErrArg},
		{"a text with a line feed", list(num(1), text("a\n"), num(2)), api.ErrArg},
		{"a text that is too long", list(num(1), text(strings.Repeat("x", api.MaxLetters+1)), num(2)), api.ErrArg},
		{"what is missing, but too few", list(num(1), null), api.ErrArg},
		{"a wrong one, ahead of one that is missing", list(text("1"), text("a"), null), api.ErrArg},
	} {
		wantErr(t, c.name, schema.Row(l, c.row), c.want)
	}
}

// 4.2: one by one: who is missing first is told ahead of a wrong one behind it.
func TestRowOneByOne(t *testing.T) {
	l := columns(must(numbers(1, "m"), num(7)), words(2, "t"))
	wantErr(t, "missing, then wrong", schema.Row(l, list(null, num(1))), api.ErrMissing)
	wantErr(t, "wrong, then well", schema.Row(l, list(text(""), null)), api.ErrArg)
	wantErr(t, "a default is none of a row's", schema.Row(l, list(null, null)), api.ErrMissing)
	wantErr(t, "no columns, no values", schema.Row(nil, nil), api.OK)
	wantErr(t, "no columns, one value", schema.Row(nil, list(null)), api.ErrArg)
}

func leaf(code int, column string, v api.Value) *api.Cond {
	return &api.Cond{Code: code, Column: column, Value: v}
}

func not(c *api.Cond) *api.Cond { return &api.Cond{Code: api.Not, Left: c} }

func and(left, right *api.Cond) *api.Cond {
	return &api.Cond{Code: api.And, Left: left, Right: right}
}

func or(left, right *api.Cond) *api.Cond { return &api.Cond{Code: api.Or, Left: left, Right: right} }

func condColumns() []api.Column {
	return columns(numbers(1, "n"), words(2, "t"), must(numbers(3, "m"), num(0)))
}

// 4.2: Cond, of a column.
func TestCondColumn(t *testing.T) {
	l := condColumns()
	for code := api.Eq; code <= api.Ge; code++ {
		for _, c := range []struct {
			column string
			v      api.Value
			want   api.Errno
		}{
			{"n", num(1), api.OK}, {"n", num(0), api.OK}, {"n", null, api.OK}, {"n", text("1"), api.ErrArg}, {"n", text(""), api.ErrArg},
			{"t", text("a"), api.OK}, {"t", text(""), api.OK}, {"t", null, api.OK}, {"t", num(1), api.ErrArg}, {"t", num(0), api.ErrArg},
			{"m", num(1), api.OK}, {"m", null, api.OK}, {"m", text(""), api.ErrArg},
			{"x", num(1), api.ErrName}, {"x", null, api.ErrName}, {"", null, api.ErrName}, {"N", num(1), api.ErrName}, {"no name", text(""), api.ErrName},
			{"n", api.Value{Kind: 3}, api.ErrArg}, {"t", api.Value{Kind: -1}, api.ErrArg},
		} {
			wantErr(t, strconv.Itoa(code)+" of "+c.column, schema.Cond(l, leaf(code, c.column, c.v)), c.want)
		}
	}
	for _, code := range []int{api.IsNull, api.NotNull} {
		for _, column := range []string{"n", "t", "m"} {
			wantErr(t, column, schema.Cond(l, leaf(code, column, null)), api.OK)
			wantErr(t, column+" with a value that is not looked at", schema.Cond(l, leaf(code, column, api.Value{Kind: 3})), api.OK)
		}
		wantErr(t, "of no such column", schema.Cond(l, leaf(code, "x", null)), api.ErrName)
	}
	wantErr(t, "nil", schema.Cond(l, nil), api.OK)
	wantErr(t, "nil, of no columns", schema.Cond(nil, nil), api.OK)
	wantErr(t, "of no columns", schema.Cond(nil, leaf(api.Eq, "n", num(1))), api.ErrName)
}

// 4.2: Cond, part by part, from the left.
func TestCondParts(t *testing.T) {
	l := condColumns()
	well, noName, noKind := leaf(api.Eq, "n", num(1)), leaf(api.IsNull, "x", null), leaf(api.Lt, "t", num(1))
	one := map[*api.Cond]api.Errno{nil: api.OK, well: api.OK, noName: api.ErrName, noKind: api.ErrArg}
	for a, ofA := range one {
		wantErr(t, "not", schema.Cond(l, not(a)), ofA)
		wantErr(t, "not not", schema.Cond(l, not(not(a))), ofA)
		for b, ofB := range one {
			first := ofA
			if first == api.OK {
				first = ofB
			}
			for _, c := range []*api.Cond{and(a, b), or(a, b), not(and(a, b)), and(not(a), b), or(a, not(b)), and(well, or(a, b)), or(and(a, b), noName), and(or(a, well), and(nil, b))} {
				want := first
				if c.Right == noName && want == api.OK {
					want = api.ErrName
				}
				wantErr(t, "of two", schema.Cond(l, c), want)
			}
		}
	}
}

// inOthers is a condition that lies in so many others.
func inOthers(c *api.Cond, n int) *api.Cond {
	for i := range n {
		switch i % 3 {
		case 0:
			c = not(c)
		case 1:
			c = and(c, nil)
		default:
			c = or(nil, c)
		}
	}
	return c
}

// 4.2, 1.2: one may lie in 20 others (and the longest text of a condition makes it 23).
func TestCondDeep(t *testing.T) {
	l := condColumns()
	for _, n := range []int{1, 19, 20, 21, 23} {
		wantErr(t, "well", schema.Cond(l, inOthers(leaf(api.Eq, "n", num(1)), n)), api.OK)
		wantErr(t, "no name", schema.Cond(l, inOthers(leaf(api.Eq, "x", num(1)), n)), api.ErrName)
		wantErr(t, "no kind", schema.Cond(l, inOthers(leaf(api.Eq, "n", text("1")), n)), api.ErrArg)
	}
}

// P1: conditions that are none: that go round, lie too deep, share their parts over and over, or have no code.
func TestCondEnds(t *testing.T) {
	l := condColumns()
	left, right := not(nil), and(nil, nil)
	left.Left, right.Right = left, right
	wide := leaf(api.Eq, "n", num(1))
	for range 64 {
		wide = or(wide, wide)
	}
	for _, c := range []*api.Cond{left, right, wide, inOthers(nil, 1000), inOthers(leaf(api.Eq, "n", num(1)), 1<<16)} {
		wantErr(t, "what is no condition", schema.Cond(l, c), api.ErrArg)
	}
	for _, code := range []int{0, -1, api.Not + 1, math.MaxInt, math.MinInt} {
		wantErr(t, "no code", schema.Cond(l, leaf(code, "n", num(1))), api.OK)
		wantErr(t, "no code, no name", schema.Cond(l, leaf(code, "x", num(1))), api.ErrName)
	}
}

// P1: columns that are not Right are no reason to panic.
func TestWrongColumns(t *testing.T) {
	for _, l := range [][]api.Column{nil, {{}}, {{}, {}}, make([]api.Column, 100), {{ID: -1, Kind: 77, Default: api.Value{Kind: 5}}}} {
		for _, name := range []string{"", "a", "\xff"} {
			schema.Right(l, math.MinInt)
			schema.Find(l, name)
			schema.More(l, math.MaxInt, numbers(1, name))
			schema.Less(l, name)
			schema.Rename(l, name, "a")
			schema.Rename(l, "a", name)
			schema.Row(l, list(null))
			schema.Row(l, make([]api.Value, 100))
			schema.Cond(l, leaf(api.Eq, name, num(1)))
		}
	}
}

// P4: columns stay as they are, also behind their length; what comes is the caller's; what is asked twice is told twice.
func TestKeepsOff(t *testing.T) {
	room := columns(numbers(1, "a"), words(2, "b"), must(numbers(3, "c"), num(7)), numbers(4, "behind"), numbers(5, "more"))
	was := slices.Clone(room)
	l := room[:3]
	ask := func() [][]api.Column {
		more, _, _ := schema.More(l, 6, words(0, "d"))
		lessA, _ := schema.Less(l, "a")
		lessC, _ := schema.Less(l, "c")
		renamed, _ := schema.Rename(l, "b", "e")
		return [][]api.Column{more, lessA, lessC, renamed}
	}
	first := ask()
	if !slices.Equal(room, was) {
		t.Fatalf("the columns are %+v after being asked", room)
	}
	kept := [][]api.Column{}
	for _, x := range first {
		kept = append(kept, slices.Clone(x))
		for i := range x[:cap(x)] {
			x[:cap(x)][i] = api.Column{Name: "spoilt"}
		}
	}
	if !slices.Equal(room, was) {
		t.Fatalf("what came shares memory with the columns: %+v", room)
	}
	if again := ask(); !reflect.DeepEqual(again, kept) {
		t.Errorf("asked again: %+v, not %+v", again, kept)
	}
	row := list(num(1), null, null, num(4))
	c := and(leaf(api.Eq, "a", num(1)), not(leaf(api.Eq, "x", text("y"))))
	schema.Row(l, row[:3])
	schema.Cond(l, c)
	if !slices.Equal(row, list(num(1), null, null, num(4))) || !reflect.DeepEqual(c, and(leaf(api.Eq, "a", num(1)), not(leaf(api.Eq, "x", text("y"))))) {
		t.Error("a row or a condition was written into")
	}
}

// die gives numbers that look drawn, the same each time.
type die uint64

func (d *die) n(most int) int {
	*d = *d*6364136223846793005 + 1442695040888963407
	return int(uint64(*d>>33) % uint64(most))
}

// 4.1, 4.2: a column's number is for ever: whatever comes, goes and is called otherwise, columns stay Right, no number comes again, and a number keeps its kind.
func TestNumbersAreForEver(t *testing.T) {
	d := die(1)
	for range 50 {
		l, next := columns(numbers(1, "n0")), 2
		kinds := map[int]int{1: api.Int}
		for range 60 {
			name, to := "n"+strconv.Itoa(d.n(12)), "n"+strconv.Itoa(d.n(12))
			switch d.n(3) {
			case 0:
				if more, after, err := schema.More(l, next, api.Column{ID: d.n(5), Name: name, Kind: 1 + d.n(2)}); err == nil {
					l, next = more, after
					c := l[len(l)-1]
					if kinds[c.ID] != 0 {
						t.Fatalf("the number %d came again", c.ID)
					}
					kinds[c.ID] = c.Kind
				}
			case 1:
				if less, err := schema.Less(l, name); err == nil {
					l = less
				}
			default:
				if renamed, err := schema.Rename(l, name, to); err == nil {
					l = renamed
				}
			}
			if !schema.Right(l, next) {
				t.Fatalf("%+v with next %d are not Right", l, next)
			}
			for _, c := range l {
				if kinds[c.ID] != c.Kind {
					t.Fatalf("the number %d is of another kind", c.ID)
				}
			}
		}
	}
}
