package file_test

import (
	"errors"
	"math"
	"reflect"
	"slices"
	"strconv"
	"strings"
	"testing"

	"millpond/api"
	"millpond/encode"
	"millpond/file"
	"millpond/stats"
	"millpond/value"
)

// mostID is the greatest number that a file's column has.
const mostID = 1 << 40

var null = api.Value{}

func num(n int64) api.Value { return api.Value{Kind: api.Int, Num: n} }

func text(s string) api.Value { return api.Value{Kind: api.Text, Text: s} }

func row(l ...api.Value) []api.Value { return l }

func rows(l ...[]api.Value) [][]api.Value { return l }

func columns(l ...api.Column) []api.Column { return l }

func numbers(id int, name string) api.Column {
	return api.Column{ID: id, Name: name, Kind: api.Int}
}

func words(id int, name string) api.Column {
	return api.Column{ID: id, Name: name, Kind: api.Text}
}

func must(c api.Column) api.Column {
	c.Must = true
	return c
}

// since is a column that older rows have as v.
func since(c api.Column, v api.Value) api.Column {
	c.Default = v
	return c
}

// counted are rows of one number each, from 1 on.
func counted(n int) [][]api.Value {
	var l [][]api.Value
	for i := range n {
		l = append(l, row(num(int64(i+1))))
	}
	return l
}

// alikeColumns are so many columns, numbered from 1 on, and a row of them.
func alikeColumns(n int) ([]api.Column, []api.Value) {
	var l []api.Column
	var r []api.Value
	for i := range n {
		l = append(l, numbers(i+1, "c"+strconv.Itoa(i)))
		r = append(r, num(int64(i)))
	}
	return l, r
}

// made is a file of what may be one.
func made(t *testing.T, l []api.Column, r [][]api.Value) file.File {
	t.Helper()
	f, err := file.Make(l, r)
	if err != nil {
		t.Fatalf("Make: %v", err)
	}
	return f
}

// wantErr says whether an error is just that Errno (nil, if it is OK), at that place (below 0: at none).
func wantErr(t *testing.T, what string, err error, want api.Errno, place int) {
	t.Helper()
	if want == api.OK && err != nil || api.Tell(err) != want {
		t.Errorf("%s: the error is %v, not %v", what, err, want)
		return
	}
	var at *api.At
	switch {
	case !errors.As(err, &at):
		if place >= 0 {
			t.Errorf("%s: the error has no place", what)
		}
	case at.Place != place || at.Err != want:
		t.Errorf("%s: the error is %v at %d, not %v at %d", what, at.Err, at.Place, want, place)
	}
}

// wantFile says whether two files are the same, an empty list being as good as none.
func wantFile(t *testing.T, what string, got, want file.File) {
	t.Helper()
	same := slices.Equal(got.Columns, want.Columns) && slices.EqualFunc(got.Groups, want.Groups, func(a, b file.Group) bool {
		return a.Rows == b.Rows && slices.Equal(a.Stats, b.Stats) && slices.Equal(a.Bytes, b.Bytes)
	})
	if !same {
		t.Errorf("%s: the file is %+v, not %+v", what, got, want)
	}
}

// wantRows says whether rows are those.
func wantRows(t *testing.T, what string, got, want [][]api.Value) {
	t.Helper()
	if !slices.EqualFunc(got, want, slices.Equal) {
		t.Errorf("%s: the rows are %v, not %v", what, got, want)
	}
}

// example is a file whose groups and bytes were worked out by hand.
type example struct {
	name  string
	l     []api.Column
	rows  [][]api.Value
	want  []file.Group
	bytes string
}

func examples() []example {
	most := strings.Repeat("m", api.MaxLetters)
	return []example{
		{
			"of one row",
			columns(numbers(1, "a")),
			rows(row(num(7))),
			[]file.Group{{
				Rows:  1,
				Stats: []api.Stats{{Count: 1, Min: num(7), Max: num(7)}},
				Bytes: []string{"\x01\x00\x00\x0e"},
			}},
			"\x01\x01\x01" + "\x01" + "\x01\x04\x01\x00\x00\x0e",
		},
		{
			"of nothing, and a number of two bytes",
			columns(words(128, "a")),
			rows(row(null)),
			[]file.Group{{
				Rows:  1,
				Stats: []api.Stats{{Count: 1, Nulls: 1}},
				Bytes: []string{"\x01\x01\x00"},
			}},
			"\x01\x80\x01\x02" + "\x01" + "\x01\x03\x01\x01\x00",
		},
		{
			"of two columns, not by their numbers",
			columns(words(300, "b"), since(must(numbers(1, "a")), num(9))),
			rows(row(text("x"), num(7)), row(text("x"), num(-1)), row(null, num(7))),
			[]file.Group{{
				Rows:  3,
				Stats: []api.Stats{{Count: 3, Nulls: 1, Min: text("x"), Max: text("x")}, {Count: 3, Min: num(-1), Max: num(7)}},
				Bytes: []string{"\x03\x04\x01\x02\x01x", "\x03\x00\x00\x0e\x01\x0e"},
			}},
			"\x02\xac\x02\x02\x01\x01" + "\x01" + "\x03\x06\x03\x04\x01\x02\x01x\x06\x03\x00\x00\x0e\x01\x0e",
		},
		{
			"of two groups",
			columns(numbers(mostID, "a")),
			counted(api.GroupRows + 1),
			[]file.Group{
				{Rows: 6, Stats: []api.Stats{{Count: 6, Min: num(1), Max: num(6)}}, Bytes: []string{"\x06\x00\x00\x02\x04\x06\x08\x0a\x0c"}},
				{Rows: 1, Stats: []api.Stats{{Count: 1, Min: num(7), Max: num(7)}}, Bytes: []string{"\x01\x00\x00\x0e"}},
			},
			"\x01\x80\x80\x80\x80\x80\x20\x01" + "\x02" + "\x06\x09\x06\x00\x00\x02\x04\x06\x08\x0a\x0c" + "\x01\x04\x01\x00\x00\x0e",
		},
		{
			"with more bytes than a byte tells",
			columns(words(1, "a")),
			rows(row(text(most)), row(text(most[1:]+"n")), row(text(most[1:]+"o")), row(text("z"))),
			[]file.Group{{
				Rows:  4,
				Stats: []api.Stats{{Count: 4, Min: text(most), Max: text("z")}},
				Bytes: []string{"\x04\x00\x00\x28" + most + "\x28" + most[1:] + "n\x28" + most[1:] + "o\x01z"},
			}},
			"\x01\x01\x02" + "\x01" + "\x04\x80\x01" + "\x04\x00\x00\x28" + most + "\x28" + most[1:] + "n\x28" + most[1:] + "o\x01z",
		},
	}
}

// 5.1: Make.
func TestMake(t *testing.T) {
	for _, x := range examples() {
		f, err := file.Make(x.l, x.rows)
		wantErr(t, x.name, err, api.OK, -1)
		wantFile(t, x.name, f, file.File{Columns: x.l, Groups: x.want})
	}
}

// 5.1, 5.2: groups of GroupRows rows each, the last one of those that are left, in order.
func TestGroups(t *testing.T) {
	l := columns(numbers(1, "a"))
	for n := 1; n <= api.MaxRows; n++ {
		f := made(t, l, counted(n))
		if f.Rows() != n {
			t.Errorf("%d rows: Rows is %d", n, f.Rows())
		}
		if want := (n + api.GroupRows - 1) / api.GroupRows; len(f.Groups) != want {
			t.Fatalf("%d rows: there are %d groups, not %d", n, len(f.Groups), want)
		}
		for i, part := range slices.Collect(slices.Chunk(counted(n), api.GroupRows)) {
			if f.Groups[i].Rows != len(part) {
				t.Errorf("%d rows: group %d has %d", n, i, f.Groups[i].Rows)
			}
			got, err := f.Read(i, l)
			wantErr(t, "Read", err, api.OK, -1)
			wantRows(t, "Read", got, part)
		}
	}
}

// 5.1, 5.3: the most and the greatest that may be.
func TestMost(t *testing.T) {
	l, r := alikeColumns(api.MaxColumns)
	l[3].ID = mostID
	f := made(t, l, slices.Repeat(rows(r), api.MaxRows))
	wantFile(t, "its columns", file.File{Columns: f.Columns}, file.File{Columns: l})
	if f.Rows() != api.MaxRows {
		t.Errorf("Rows is %d", f.Rows())
	}
	s, err := file.Write(f)
	wantErr(t, "Write", err, api.OK, -1)
	parsed, err := file.Parse(s)
	wantErr(t, "Parse", err, api.OK, -1)
	wantFile(t, "Parse", parsed, file.File{Columns: numbersAndKinds(l), Groups: f.Groups})
}

// 5.1, P2, P3: what Make may not be given, and what is told first.
func TestMakeWrong(t *testing.T) {
	a, b := numbers(1, "a"), must(words(2, "b"))
	good := row(num(1), text("x"))
	many, manyRow := alikeColumns(api.MaxColumns + 1)
	for _, x := range []struct {
		name  string
		l     []api.Column
		rows  [][]api.Value
		want  api.Errno
		place int
	}{
		{"no columns", nil, rows(row()), api.ErrArg, -1},
		{"too many columns", many, rows(manyRow), api.ErrArg, -1},
		{"a number twice", columns(a, numbers(1, "b")), rows(row(null, null)), api.ErrArg, -1},
		{"a name twice", columns(a, numbers(2, "a")), rows(row(null, null)), api.ErrArg, -1},
		{"a word for a name", columns(numbers(1, "not")), counted(1), api.ErrArg, -1},
		{"no name", columns(numbers(1, "")), counted(1), api.ErrArg, -1},
		{"number 0", columns(numbers(0, "a")), counted(1), api.ErrArg, -1},
		{"too great a number", columns(numbers(mostID+1, "a")), counted(1), api.ErrArg, -1},
		{"the greatest number", columns(numbers(math.MaxInt, "a")), counted(1), api.ErrArg, -1},
		{"no kind", columns(api.Column{ID: 1, Name: "a"}), counted(1), api.ErrArg, -1},
		{"a default of another kind", columns(since(a, text("x"))), counted(1), api.ErrArg, -1},

		{"no rows", columns(a), nil, api.ErrLimit, -1},
		{"no rows, but not nil", columns(a), rows(), api.ErrLimit, -1},
		{"too many rows", columns(a), counted(api.MaxRows + 1), api.ErrLimit, -1},

		{"a row too short", columns(a, b), rows(good, row(num(1))), api.ErrArg, 1},
		{"a row too long", columns(a, b), rows(append(slices.Clone(good), null)), api.ErrArg, 0},
		{"a row that is nil", columns(a), append(counted(9), nil), api.ErrArg, 9},
		{"a value of another kind", columns(a, b), rows(good, good, row(text("x"), text("x"))), api.ErrArg, 2},
		{"a value that is none", columns(a, b), rows(row(num(1), text("it's"))), api.ErrArg, 0},
		{"nothing with a number", columns(a), rows(row(api.Value{Num: 1})), api.ErrArg, 0},
		{"it must be something", columns(a, b), rows(good, row(null, null)), api.ErrMissing, 1},
		{"the last row there may be", columns(must(a)), append(counted(api.MaxRows-1), row(null)), api.ErrMissing, api.MaxRows - 1},

		{"columns ahead of how many rows", columns(a, a), nil, api.ErrArg, -1},
		{"columns ahead of rows", columns(a, a), rows(row(null)), api.ErrArg, -1},
		{"how many rows ahead of rows", columns(must(a)), append(rows(row(null)), counted(api.MaxRows)...), api.ErrLimit, -1},
		{"a row ahead of the next one", columns(a, b), rows(good, row(num(1), null), row()), api.ErrMissing, 1},
		{"a row ahead of the next one, the other way", columns(a, b), rows(row(), row(num(1), null)), api.ErrArg, 0},
		{"a value ahead of the next one", columns(must(a), b), rows(row(null, num(1))), api.ErrMissing, 0},
	} {
		f, err := file.Make(x.l, x.rows)
		wantErr(t, x.name, err, x.want, x.place)
		wantFile(t, x.name, f, file.File{})
	}
}

// old is a file that was made some time ago: numbers, which must be something, and texts; a group and a half.
func old(t *testing.T) file.File {
	return made(t, columns(must(numbers(5, "a")), since(words(2, "b"), text("was"))), rows(
		row(num(1), text("p")), row(num(2), null), row(num(3), text("q")), row(num(4), text("q")), row(num(5), null), row(num(6), text("r")),
		row(num(-7), null), row(num(8), null), row(num(9), null),
	))
}

// 5.2: Rows.
func TestRows(t *testing.T) {
	if got := old(t).Rows(); got != 9 {
		t.Errorf("Rows is %d, not 9", got)
	}
	if got := (file.File{}).Rows(); got != 0 {
		t.Errorf("Rows of no file is %d", got)
	}
}

// 5.2: Read.
func TestRead(t *testing.T) {
	f := old(t)
	for _, x := range []struct {
		name  string
		which int
		l     []api.Column
		want  [][]api.Value
	}{
		{"as it was", 1, f.Columns, rows(row(num(-7), null), row(num(8), null), row(num(9), null))},
		{"as it was, the first group", 0, f.Columns, rows(
			row(num(1), text("p")), row(num(2), null), row(num(3), text("q")), row(num(4), text("q")), row(num(5), null), row(num(6), text("r")))},
		{"called otherwise", 1, columns(numbers(5, "z")), rows(row(num(-7)), row(num(8)), row(num(9)))},
		{"called as another one was", 1, columns(words(2, "a"), numbers(5, "b")), rows(row(null, num(-7)), row(null, num(8)), row(null, num(9)))},
		{"of the same name, but another number", 1, columns(numbers(1, "a")), rows(row(null), row(null), row(null))},
		{"came later", 1, columns(numbers(5, "a"), words(6, "c"), since(must(numbers(7, "d")), num(3))), rows(
			row(num(-7), null, num(3)), row(num(8), null, num(3)), row(num(9), null, num(3)))},
		{"came later, the first group", 0, columns(since(words(9, "x"), text(""))), slices.Repeat(rows(row(text(""))), api.GroupRows)},
		{"nothing is nothing, whatever the column's default is now", 1, columns(since(words(2, "b"), text("now"))), rows(row(null), row(null), row(null))},
		{"of another kind now", 1, columns(words(5, "a")), rows(row(num(-7)), row(num(8)), row(num(9)))},
		{"twice", 1, columns(numbers(5, "a"), numbers(5, "b"), numbers(5, "a")), rows(
			slices.Repeat(row(num(-7)), 3), slices.Repeat(row(num(8)), 3), slices.Repeat(row(num(9)), 3))},
		{"no columns", 1, nil, rows(nil, nil, nil)},
		{"columns that may not be", 1, columns(api.Column{}, api.Column{ID: -5, Default: num(1)}), slices.Repeat(rows(row(null, num(1))), 3)},
	} {
		got, err := f.Read(x.which, x.l)
		wantErr(t, x.name, err, api.OK, -1)
		wantRows(t, x.name, got, x.want)
	}
}

// groupsThatAreNot are groups that a file of two groups has not.
var groupsThatAreNot = []int{-1, 2, 3, math.MinInt, math.MaxInt}

// 5.2, P2, P3: Read of a group that is not there.
func TestReadRange(t *testing.T) {
	f := old(t)
	for _, which := range groupsThatAreNot {
		for _, l := range [][]api.Column{f.Columns, nil} {
			got, err := f.Read(which, l)
			wantErr(t, "group "+strconv.Itoa(which), err, api.ErrRange, -1)
			wantRows(t, "group "+strconv.Itoa(which), got, nil)
		}
	}
	_, err := file.File{}.Read(0, nil)
	wantErr(t, "of no file", err, api.ErrRange, -1)
}

// 5.2: Known.
func TestKnown(t *testing.T) {
	f := old(t)
	for _, x := range []struct {
		name  string
		which int
		c     api.Column
		want  api.Stats
	}{
		{"numbers", 0, numbers(5, "a"), api.Stats{Count: 6, Min: num(1), Max: num(6)}},
		{"numbers of the second group", 1, numbers(5, "a"), api.Stats{Count: 3, Min: num(-7), Max: num(9)}},
		{"texts", 0, words(2, "b"), api.Stats{Count: 6, Nulls: 2, Min: text("p"), Max: text("r")}},
		{"nothing", 1, words(2, "b"), api.Stats{Count: 3, Nulls: 3}},
		{"nothing, whatever the default is now", 1, since(words(2, "b"), text("now")), api.Stats{Count: 3, Nulls: 3}},
		{"called otherwise", 0, numbers(5, "b"), api.Stats{Count: 6, Min: num(1), Max: num(6)}},
		{"of another kind now", 0, words(5, "a"), api.Stats{Count: 6, Min: num(1), Max: num(6)}},
		{"came later, of nothing", 0, numbers(6, "a"), api.Stats{Count: 6, Nulls: 6}},
		{"came later, of nothing, the second group", 1, numbers(6, "a"), api.Stats{Count: 3, Nulls: 3}},
		{"came later, of something", 1, since(words(1, "a"), text("x")), api.Stats{Count: 3, Min: text("x"), Max: text("x")}},
	} {
		if got := f.Known(x.which, x.c); got != x.want {
			t.Errorf("%s: Known is %+v, not %+v", x.name, got, x.want)
		}
	}
	for _, which := range groupsThatAreNot {
		for _, c := range columns(numbers(5, "a"), since(numbers(6, "c"), num(1))) {
			if got := f.Known(which, c); got != (api.Stats{}) {
				t.Errorf("group %d: Known is %+v", which, got)
			}
		}
	}
	if got := (file.File{}).Known(0, since(numbers(1, "a"), num(1))); got != (api.Stats{}) {
		t.Errorf("of no file: Known is %+v", got)
	}
}

func leaf(code int, column string, v api.Value) *api.Cond {
	return &api.Cond{Code: code, Column: column, Value: v}
}

func not(c *api.Cond) *api.Cond { return &api.Cond{Code: api.Not, Left: c} }

func and(a, b *api.Cond) *api.Cond { return &api.Cond{Code: api.And, Left: a, Right: b} }

func or(a, b *api.Cond) *api.Cond { return &api.Cond{Code: api.Or, Left: a, Right: b} }

// 5.2: May.
func TestMay(t *testing.T) {
	f := old(t)
	now := columns(words(2, "a"), numbers(5, "b"), since(numbers(6, "c"), num(3)), numbers(7, "d"))
	for _, x := range []struct {
		name  string
		which int
		c     *api.Cond
		want  bool
	}{
		{"no condition", 0, nil, true},
		{"a number among them", 0, leaf(api.Eq, "b", num(6)), true},
		{"a number above them", 0, leaf(api.Eq, "b", num(7)), false},
		{"a number between them that is not there", 1, leaf(api.Eq, "b", num(0)), true},
		{"the other group", 1, leaf(api.Lt, "b", num(0)), true},
		{"the other group, but not this one", 0, leaf(api.Lt, "b", num(0)), false},
		{"by the name that it has now", 0, leaf(api.Eq, "a", text("q")), true},
		{"by the name that it has now, of the kind it had", 0, leaf(api.Eq, "a", num(3)), false},
		{"nothing at all", 1, leaf(api.NotNull, "a", null), false},
		{"nothing at all, asked for", 1, leaf(api.IsNull, "a", null), true},
		{"came later", 0, leaf(api.Eq, "c", num(3)), true},
		{"came later, and was something else", 0, leaf(api.Ne, "c", num(3)), false},
		{"came later, and was nothing", 0, leaf(api.IsNull, "d", null), true},
		{"came later, and was nothing, not something", 0, leaf(api.NotNull, "d", null), false},
		{"no such column", 0, leaf(api.IsNull, "e", null), false},
		{"no such column, not nothing", 0, leaf(api.NotNull, "e", null), false},
		{"both", 0, and(leaf(api.Gt, "b", num(5)), leaf(api.Ge, "a", text("r"))), true},
		{"both, but one may not", 0, and(leaf(api.Gt, "b", num(5)), leaf(api.Gt, "a", text("r"))), false},
		{"one", 0, or(leaf(api.Gt, "b", num(6)), leaf(api.Ge, "a", text("r"))), true},
		{"not", 1, not(leaf(api.IsNull, "a", null)), false},
		{"not of no condition", 1, not(nil), false},
	} {
		if got := f.May(x.which, now, x.c); got != x.want {
			t.Errorf("%s: May is %v, not %v", x.name, got, x.want)
		}
	}
}

// 5.2: May of a group that is not there, and among no columns: nothing is known.
func TestMayOfNothing(t *testing.T) {
	f := old(t)
	for _, which := range groupsThatAreNot {
		for code := api.Eq; code <= api.NotNull; code++ {
			for _, v := range row(null, num(0), text("q")) {
				c := leaf(code, "a", v)
				if f.May(which, f.Columns, c) || f.May(which, f.Columns, not(c)) || f.May(0, nil, c) {
					t.Errorf("group %d: May of code %d is true", which, code)
				}
			}
		}
		if !f.May(which, f.Columns, nil) {
			t.Errorf("group %d: May of no condition is false", which)
		}
	}
}

// 5.2: of two columns of one name May asks the first one.
func TestMayFirst(t *testing.T) {
	f := old(t)
	twice := columns(numbers(5, "x"), words(2, "x"))
	if !f.May(0, twice, leaf(api.Eq, "x", num(1))) || f.May(0, twice, leaf(api.Eq, "x", text("q"))) {
		t.Error("May asks another one than the first")
	}
}

// 5.3: Write.
func TestWrite(t *testing.T) {
	for _, x := range examples() {
		if s, err := file.Write(made(t, x.l, x.rows)); s != x.bytes || err != nil {
			t.Errorf("%s: Write is %q, %v, not %q", x.name, s, err, x.bytes)
		}
	}
}

// numbersAndKinds are columns without all that is not written.
func numbersAndKinds(l []api.Column) []api.Column {
	var out []api.Column
	for _, c := range l {
		out = append(out, api.Column{ID: c.ID, Kind: c.Kind})
	}
	return out
}

// 5.3: Parse.
func TestParse(t *testing.T) {
	for _, x := range examples() {
		f, err := file.Parse(x.bytes)
		wantErr(t, x.name, err, api.OK, -1)
		wantFile(t, x.name, f, file.File{Columns: numbersAndKinds(x.l), Groups: x.want})
		if s, err := file.Write(f); s != x.bytes || err != nil {
			t.Errorf("%s: Write of what Parse told is %q, %v, not %q", x.name, s, err, x.bytes)
		}
	}
}

// 5.3: names, what must be and what was in older rows is not looked at.
func TestWriteWhatIsNotLookedAt(t *testing.T) {
	want, _ := file.Write(old(t))
	if want == "" {
		t.Fatal("Write is empty")
	}
	for name, turn := range map[string]func(c *api.Column){
		"no name":                   func(c *api.Column) { c.Name = "" },
		"one name":                  func(c *api.Column) { c.Name = "x" },
		"a word for a name":         func(c *api.Column) { c.Name = "null" },
		"no name at all":            func(c *api.Column) { c.Name = "\xff'" + strings.Repeat("X", 99) },
		"must be":                   func(c *api.Column) { c.Must = true },
		"may be":                    func(c *api.Column) { c.Must = false },
		"was nothing":               func(c *api.Column) { c.Default = null },
		"was a number":              func(c *api.Column) { c.Default = num(1) },
		"was what no value is":      func(c *api.Column) { c.Default = api.Value{Kind: 9, Num: 9, Text: "'"} },
		"was nothing, with numbers": func(c *api.Column) { c.Default = api.Value{Num: 9} },
	} {
		f := old(t)
		for i := range f.Columns {
			turn(&f.Columns[i])
		}
		if got, err := file.Write(f); got != want || err != nil {
			t.Errorf("%s: Write is %q, %v, not %q", name, got, err, want)
		}
	}
}

// bytesOf are a column's, as they lie.
func bytesOf(t *testing.T, kind int, l ...api.Value) string {
	t.Helper()
	s, err := encode.Encode(kind, l)
	if err != nil {
		t.Fatal(err)
	}
	return s
}

// notMade are turns that make of old what Make does not make.
func notMade(t *testing.T) map[string]func(f *file.File) {
	return map[string]func(f *file.File){
		"no file":                     func(f *file.File) { *f = file.File{} },
		"no columns":                  func(f *file.File) { f.Columns = nil },
		"no groups":                   func(f *file.File) { f.Groups = nil },
		"a column less":               func(f *file.File) { f.Columns = f.Columns[:1] },
		"a column more":               func(f *file.File) { f.Columns = append(f.Columns, numbers(9, "z")) },
		"number 0":                    func(f *file.File) { f.Columns[0].ID = 0 },
		"a number below 0":            func(f *file.File) { f.Columns[1].ID = -2 },
		"too great a number":          func(f *file.File) { f.Columns[1].ID = mostID + 1 },
		"a number twice":              func(f *file.File) { f.Columns[1].ID = f.Columns[0].ID },
		"kind 0":                      func(f *file.File) { f.Columns[0].Kind = api.Null },
		"kind 3":                      func(f *file.File) { f.Columns[0].Kind = 3 },
		"a kind below 0":              func(f *file.File) { f.Columns[0].Kind = -1 },
		"another kind":                func(f *file.File) { f.Columns[0].Kind = api.Text },
		"kinds the other way":         func(f *file.File) { f.Columns[0].Kind, f.Columns[1].Kind = api.Text, api.Int },
		"too many rows told":          func(f *file.File) { f.Groups[1].Rows++ },
		"too few rows told":           func(f *file.File) { f.Groups[1].Rows-- },
		"no rows told":                func(f *file.File) { f.Groups[0].Rows = 0 },
		"rows below 0":                func(f *file.File) { f.Groups[0].Rows = -1 },
		"far too many rows told":      func(f *file.File) { f.Groups[0].Rows = math.MaxInt },
		"groups the other way":        func(f *file.File) { slices.Reverse(f.Groups) },
		"a short group in the midst":  func(f *file.File) { f.Groups = append(f.Groups, f.Groups[1]) },
		"an empty group at the end":   func(f *file.File) { f.Groups = append(f.Groups, emptyGroup(t)) },
		"an empty group alone":        func(f *file.File) { f.Groups = []file.Group{emptyGroup(t)} },
		"a group without anything":    func(f *file.File) { f.Groups = append(f.Groups, file.Group{}) },
		"too long a group":            func(f *file.File) { f.Groups = []file.Group{longGroup(t)} },
		"too many groups":             func(f *file.File) { f.Groups = slices.Repeat(f.Groups[:1], api.MaxRows/api.GroupRows+1) },
		"far too many groups":         func(f *file.File) { f.Groups = slices.Repeat(f.Groups[:1], 10_000) },
		"no bytes":                    func(f *file.File) { f.Groups[0].Bytes = nil },
		"a column's bytes less":       func(f *file.File) { f.Groups[1].Bytes = f.Groups[1].Bytes[:1] },
		"a column's bytes more":       func(f *file.File) { f.Groups[1].Bytes = append(f.Groups[1].Bytes, f.Groups[1].Bytes[0]) },
		"empty bytes":                 func(f *file.File) { f.Groups[0].Bytes[0] = "" },
		"a byte more":                 func(f *file.File) { f.Groups[0].Bytes[1] += "\x00" },
		"bytes in a longer way":       func(f *file.File) { f.Groups[1].Bytes[1] = "\x03\x07\x01" },
		"bytes of fewer rows":         func(f *file.File) { f.Groups[1].Bytes[1] = bytesOf(t, api.Text, null, null) },
		"bytes of more rows":          func(f *file.File) { f.Groups[1].Bytes[1] = bytesOf(t, api.Text, null, null, null, null) },
		"bytes of other values":       func(f *file.File) { f.Groups[1].Bytes[0] = bytesOf(t, api.Int, num(-7), num(8), num(10)) },
		"nothing known":               func(f *file.File) { f.Groups[0].Stats = nil },
		"less known":                  func(f *file.File) { f.Groups[0].Stats = f.Groups[0].Stats[:1] },
		"more known":                  func(f *file.File) { f.Groups[0].Stats = append(f.Groups[0].Stats, api.Stats{}) },
		"another count known":         func(f *file.File) { f.Groups[0].Stats[0].Count++ },
		"other nulls known":           func(f *file.File) { f.Groups[0].Stats[1].Nulls-- },
		"another least known":         func(f *file.File) { f.Groups[1].Stats[0].Min = num(-8) },
		"another greatest known":      func(f *file.File) { f.Groups[1].Stats[0].Max = num(10) },
		"known the other way":         func(f *file.File) { slices.Reverse(f.Groups[0].Stats) },
		"bytes and known of too many": func(f *file.File) { *f = wide(t) },
	}
}

func emptyGroup(t *testing.T) file.Group {
	return file.Group{Stats: make([]api.Stats, 2), Bytes: []string{bytesOf(t, api.Int), bytesOf(t, api.Text)}}
}

// longGroup has a row more than a group has, and is right but for that.
func longGroup(t *testing.T) file.Group {
	nothing := slices.Repeat(row(null), api.GroupRows+1)
	known := stats.Of(nothing)
	return file.Group{Rows: len(nothing), Stats: []api.Stats{known, known}, Bytes: []string{bytesOf(t, api.Int, nothing...), bytesOf(t, api.Text, nothing...)}}
}

// wide has a column more than a file has, and is right but for that.
func wide(t *testing.T) file.File {
	l, r := alikeColumns(api.MaxColumns + 1)
	g := file.Group{Rows: 1}
	for _, v := range r {
		g.Stats = append(g.Stats, stats.Of(row(v)))
		g.Bytes = append(g.Bytes, bytesOf(t, api.Int, v))
	}
	return file.File{Columns: l, Groups: []file.Group{g}}
}

// 5.3, P1, P2, P3: Write of what Make does not make; and no call panics of it.
func TestWriteWrong(t *testing.T) {
	for name, turn := range notMade(t) {
		f := old(t)
		turn(&f)
		s, err := file.Write(f)
		wantErr(t, name, err, api.ErrArg, -1)
		if s != "" {
			t.Errorf("%s: Write is %q beside an error", name, s)
		}
		f.Rows()
		for which := -1; which <= len(f.Groups) && which < 12; which++ {
			f.Read(which, f.Columns)
			for _, c := range f.Columns {
				f.Known(which, c)
			}
			f.May(which, f.Columns, or(leaf(api.Eq, "a", num(1)), leaf(api.Eq, "b", text("q"))))
		}
	}
}

// 5.3, P2, P3: texts that Write does not tell.
func TestParseWrong(t *testing.T) {
	one := "\x01\x04\x01\x00\x00\x0e"                       // a group of one row: the number 7
	six := "\x06\x05\x06\x00\x01\x06\x0e"                   // a group of six such rows
	seven := "\x07\x05\x07\x00\x01\x07\x0e"                 // and of seven
	most := strings.Repeat("\x80", 5) + "\x20"              // 2^40
	above := "\x81" + strings.Repeat("\x80", 4) + "\x20"    // 2^40 + 1
	greatest := strings.Repeat("\xff", 9) + "\x01"          // 2^64 - 1
	beyond := strings.Repeat("\xff", 9) + "\x7f"            // more than 64 bits
	head := "\x01\x01\x01"                                  // one column of numbers
	columnsToo := "\x09" + strings.Repeat("\x01\x01", 9)    // nine columns
	apart := "\x09\x01\x01\x02\x01\x03\x01\x04\x01\x05\x01" // nine columns, each of its own number
	apart += "\x06\x01\x07\x01\x08\x01\x09\x01"
	for _, s := range []string{
		head + "\x01" + one, head + "\x01" + six, head + "\x02" + six + one, head + "\x0a" + strings.Repeat(six, 10), "\x01" + most + "\x01\x01" + one,
	} {
		if _, err := file.Parse(s); err != nil {
			t.Fatalf("Parse(%q) is %v", s, err)
		}
	}
	for name, s := range map[string]string{
		"nothing":                            "",
		"no columns":                         "\x00",
		"no columns, and no groups":          "\x00\x00",
		"no columns, and a group":            "\x00\x01\x01",
		"too many columns, alike":            columnsToo + "\x01\x01" + strings.Repeat(one[1:], 9),
		"too many columns":                   apart + "\x01\x01" + strings.Repeat(one[1:], 9),
		"far too many columns":               greatest,
		"no groups":                          head + "\x00",
		"too many groups":                    head + "\x0b" + strings.Repeat(six, 11),
		"too many groups, by one row":        head + "\x0b" + strings.Repeat(six, 10) + one,
		"far too many groups":                head + greatest,
		"fewer groups than told":             head + "\x02" + six,
		"more groups than told":              head + "\x01" + six + one,
		"number 0":                           "\x01\x00\x01\x01" + one,
		"too great a number":                 "\x01" + above + "\x01\x01" + one,
		"far too great a number":             "\x01" + greatest + "\x01\x01" + one,
		"a number of more than 64 bits":      "\x01" + beyond + "\x01\x01" + one,
		"a number twice":                     "\x02\x01\x01\x01\x01\x01\x01" + one[1:] + one[1:],
		"kind 0":                             "\x01\x01\x00\x01" + one,
		"kind 3":                             "\x01\x01\x03\x01" + one,
		"another kind":                       "\x01\x01\x02\x01" + one,
		"no rows":                            head + "\x01\x00\x02\x00\x00",
		"no rows at the end":                 head + "\x02" + six + "\x00\x02\x00\x00",
		"a short group in the midst":         head + "\x02" + one + six,
		"two short groups":                   head + "\x02" + one + one,
		"too long a group":                   head + "\x01" + seven,
		"more rows told than there are":      head + "\x01\x02" + one[1:],
		"fewer rows told than there are":     head + "\x01\x05" + six[1:],
		"columns of more rows and fewer":     "\x02\x01\x01\x02\x01\x01" + one + six[1:],
		"bytes that are no column's":         head + "\x01\x01\x04\x01\x00\x09\x0e",
		"bytes in a longer way":              head + "\x01\x01\x05\x01\x00\x01\x01\x0e",
		"a column less":                      "\x02\x01\x01\x02\x01\x01" + one,
		"a byte told too many":               head + "\x01\x01\x05\x01\x00\x00\x0e",
		"a byte told too few":                head + "\x01\x01\x03\x01\x00\x00\x0e",
		"no bytes":                           head + "\x01\x01\x00",
		"far too many bytes":                 head + "\x01\x01" + greatest + "\x01\x00\x00\x0e",
		"as many bytes as an int can tell":   head + "\x01\x01" + strings.Repeat("\xff", 8) + "\x7f" + "\x01\x00\x00\x0e",
		"a byte behind it":                   head + "\x01" + one + "\x00",
		"twice":                              head + "\x01" + one + head + "\x01" + one,
		"how many columns, too long":         "\x81\x00\x01\x01\x01" + one,
		"a column's number, too long":        "\x01\x81\x00\x01\x01" + one,
		"a kind, too long":                   "\x01\x01\x81\x00\x01" + one,
		"how many groups, too long":          head + "\x81\x00" + one,
		"how many rows, too long":            head + "\x01\x81\x00" + one[1:],
		"how many bytes, too long":           head + "\x01\x01\x84\x00" + one[2:],
		"what is never ended":                strings.Repeat("\x80", 100),
		"a text":                             "commit t blind\n",
		"a text of a column that has a mark": "\x01\x01\x02\x01\x01\x05\x01\x00\x00\x01'",
	} {
		f, err := file.Parse(s)
		wantErr(t, name, err, api.ErrForm, -1)
		wantFile(t, name, f, file.File{})
	}
}

// wantWritten says whether Parse of a text is what Write tells just of it, or ErrForm.
func wantWritten(t *testing.T, s string) {
	t.Helper()
	f, err := file.Parse(s)
	if err != nil {
		wantErr(t, strconv.Quote(s), err, api.ErrForm, -1)
		wantFile(t, strconv.Quote(s), f, file.File{})
		return
	}
	if again, err := file.Write(f); again != s || err != nil {
		t.Errorf("Write of Parse(%q) is %q, %v", s, again, err)
	}
}

// 5.3: a text that is bent is none, or one of its own; one that is cut is none.
func TestParseBent(t *testing.T) {
	for _, x := range examples() {
		for i := range len(x.bytes) {
			if _, err := file.Parse(x.bytes[:i]); api.Tell(err) != api.ErrForm {
				t.Errorf("%s: cut at %d it is %v", x.name, i, err)
			}
			for b := range 256 {
				wantWritten(t, x.bytes[:i]+string([]byte{byte(b)})+x.bytes[i+1:])
			}
			wantWritten(t, x.bytes[:i]+x.bytes[i+1:])
			wantWritten(t, x.bytes[:i]+x.bytes[i:i+1]+x.bytes[i:])
		}
	}
}

// P4: Make keeps none of its lists, and writes into none.
func TestMakeKeepsOff(t *testing.T) {
	all := columns(numbers(1, "a"), words(2, "b"), numbers(3, "behind"))
	r := counted(8)
	for i := range r {
		r[i] = append(r[i], text("x"))
	}
	wasAll, wasRows := slices.Clone(all), slices.Clone(r)
	for i := range wasRows {
		wasRows[i] = slices.Clone(r[i])
	}
	l := all[:2]
	f, again := made(t, l, r[:7]), made(t, l, r[:7])
	if !slices.Equal(all, wasAll) || !slices.EqualFunc(r, wasRows, slices.Equal) {
		t.Error("Make has written into its lists")
	}
	_ = append(f.Columns, numbers(9, "z"))
	if !slices.Equal(all, wasAll) {
		t.Error("what stands behind its columns is the caller's")
	}
	all[0], r[0][0], r[1] = numbers(9, "z"), num(99), nil
	wantFile(t, "what Make told", f, again)
	got, err := f.Read(0, wasAll[:2])
	wantErr(t, "Read", err, api.OK, -1)
	wantRows(t, "Read", got, wasRows[:6])
}

// P4: what Read tells is the caller's: no row is another one's, and none the file's.
func TestReadIsTheCallers(t *testing.T) {
	f := old(t)
	l := columns(numbers(5, "a"), since(numbers(9, "c"), num(3)), words(2, "b"))
	was := slices.Clone(l)
	want, _ := f.Read(1, l)
	got, _ := f.Read(1, l[:3:3])
	for i := range got {
		got[i] = append(got[i], num(99))
		got[i][0], got[i][1] = num(99), num(99)
		for j := i + 1; j < len(got); j++ {
			if !slices.Equal(got[j], want[j]) {
				t.Fatalf("row %d is %v once row %d was written into, not %v", j, got[j], i, want[j])
			}
		}
	}
	again, _ := f.Read(1, l)
	wantRows(t, "Read again", again, want)
	wantFile(t, "the file", f, old(t))
	if !slices.Equal(l, was) {
		t.Error("Read has written into its columns")
	}
}

// P4: Write and May write into nothing; what is asked twice is told twice.
func TestAskedTwice(t *testing.T) {
	f := old(t)
	first, _ := file.Write(f)
	c := func() *api.Cond { return not(and(leaf(api.Eq, "a", num(1)), leaf(api.IsNull, "b", null))) }
	asked := c()
	may := f.May(0, f.Columns, asked)
	if second, _ := file.Write(f); second != first || f.May(0, f.Columns, asked) != may || !reflect.DeepEqual(asked, c()) {
		t.Error("something is told otherwise when it is asked again")
	}
	wantFile(t, "the file", f, old(t))
	one, _ := file.Parse(first)
	one.Columns[0], one.Groups[0].Bytes[0], one.Groups[1].Stats[0] = api.Column{}, "", api.Stats{}
	two, err := file.Parse(first)
	wantErr(t, "Parse again", err, api.OK, -1)
	wantFile(t, "Parse again", two, file.File{Columns: numbersAndKinds(f.Columns), Groups: f.Groups})
}

// P1: a condition that goes round is looked at, and ends.
func TestMayEnds(t *testing.T) {
	f := old(t)
	round := not(nil)
	round.Left = round
	f.May(0, f.Columns, round)
	both := and(nil, nil)
	both.Left, both.Right = both, both
	f.May(0, f.Columns, both)
	for code := -1; code <= api.Not+1; code++ {
		f.May(0, f.Columns, &api.Cond{Code: code, Column: "a", Value: api.Value{Kind: 7, Num: 1, Text: "\xff"}})
	}
}

// die gives numbers that look drawn, the same each time.
type die uint64

func (d *die) n(most int) int {
	*d = *d*6364136223846793005 + 1442695040888963407
	return int(uint64(*d>>33) % uint64(most))
}

func drawnValue(d *die, kind int) api.Value {
	pool := row(null, num(math.MinInt64), num(-1), num(0), num(1), num(2), num(math.MaxInt64))
	if kind == api.Text {
		pool = row(null, text(""), text("a"), text("ab"), text("b"), text("~"))
	}
	return pool[d.n(len(pool))]
}

// drawnColumns are up to six, called a, b .., each of a number from 1 to 8 that none other has.
func drawnColumns(d *die, kinds [9]int) []api.Column {
	var l []api.Column
	for range 1 + d.n(6) {
		id := 1 + d.n(8)
		if slices.ContainsFunc(l, func(c api.Column) bool { return c.ID == id }) {
			continue
		}
		c := api.Column{ID: id, Name: string(rune('a' + len(l))), Kind: kinds[id]}
		l = append(l, since(c, drawnValue(d, c.Kind)))
	}
	return l
}

func drawnRows(d *die, l []api.Column) [][]api.Value {
	var out [][]api.Value
	for range 1 + d.n(20) {
		var r []api.Value
		for _, c := range l {
			r = append(r, drawnValue(d, c.Kind))
		}
		out = append(out, r)
	}
	return out
}

// meant are rows of some columns, as columns of other names, orders and numbers mean them now.
func meant(was []api.Column, all [][]api.Value, now []api.Column) [][]api.Value {
	var out [][]api.Value
	for _, r := range all {
		var read []api.Value
		for _, c := range now {
			v := c.Default
			for i := range was {
				if was[i].ID == c.ID {
					v = r[i]
				}
			}
			read = append(read, v)
		}
		out = append(out, read)
	}
	return out
}

// 5.1 to 5.3: what was put in is what is read, as it is meant now, also of what was written and parsed; what is known is of just these values; and who is passed by had nothing.
func TestAnOlderFileIsReadAsItIsMeantNow(t *testing.T) {
	d := die(1)
	passed := 0
	for range 2000 {
		var kinds [9]int
		for i := range kinds {
			kinds[i] = api.Int + d.n(2)
		}
		was, now := drawnColumns(&d, kinds), drawnColumns(&d, kinds)
		all := drawnRows(&d, was)
		f := made(t, was, all)
		s, err := file.Write(f)
		wantErr(t, "Write", err, api.OK, -1)
		parsed, err := file.Parse(s)
		wantErr(t, "Parse", err, api.OK, -1)
		wantFile(t, "Parse", parsed, file.File{Columns: numbersAndKinds(was), Groups: f.Groups})
		for which, part := range slices.Collect(slices.Chunk(meant(was, all, now), api.GroupRows)) {
			for _, f := range []file.File{f, parsed} {
				got, err := f.Read(which, now)
				wantErr(t, "Read", err, api.OK, -1)
				wantRows(t, "Read", got, part)
				wantKnown(t, f, which, now, part)
			}
			passed += wantNothingMissed(t, &d, f, which, now, part)
		}
	}
	if passed < 500 {
		t.Errorf("only %d were passed by", passed)
	}
}

// wantKnown says whether what is known of each column is what its values tell.
func wantKnown(t *testing.T, f file.File, which int, now []api.Column, part [][]api.Value) {
	t.Helper()
	for i, c := range now {
		var values []api.Value
		for _, r := range part {
			values = append(values, r[i])
		}
		if got, want := f.Known(which, c), stats.Of(values); got != want {
			t.Errorf("Known of %v is %+v, not %+v", values, got, want)
		}
	}
}

// wantNothingMissed says whether May tells of a condition that holds of a row; it is 1, if it is passed by.
func wantNothingMissed(t *testing.T, d *die, f file.File, which int, now []api.Column, part [][]api.Value) int {
	t.Helper()
	part1, part2 := drawnLeaf(d, now), drawnLeaf(d, now)
	c := []*api.Cond{part1, not(part1), and(part1, part2), or(part1, part2), not(or(part1, not(part2)))}[d.n(5)]
	may := f.May(which, now, c)
	for _, r := range part {
		holds := value.Holds(c, func(column string) api.Value {
			return r[slices.IndexFunc(now, func(c api.Column) bool { return c.Name == column })]
		})
		if holds == 1 && !may {
			t.Errorf("a condition holds of %v, but May is false", r)
		}
	}
	if may {
		return 0
	}
	return 1
}

func drawnLeaf(d *die, now []api.Column) *api.Cond {
	c := now[d.n(len(now))]
	code := api.Eq + d.n(8)
	if code >= api.IsNull {
		return leaf(code, c.Name, null)
	}
	return leaf(code, c.Name, drawnValue(d, c.Kind))
}
