package query_test

import (
	"math"
	"strings"
	"testing"

	"millpond/api"
	"millpond/ask"
	"millpond/plain"
	"millpond/query"
	"millpond/value"
)

var null = api.Value{}

func num(n int64) api.Value { return api.Value{Kind: api.Int, Num: n} }

func text(s string) api.Value { return api.Value{Kind: api.Text, Text: s} }

func row(l ...api.Value) []api.Value { return l }

// abc are two columns of numbers, and one of texts.
func abc() []api.Column {
	return []api.Column{{ID: 1, Name: "a", Kind: api.Int}, {ID: 2, Name: "b", Kind: api.Int}, {ID: 3, Name: "c", Kind: api.Text}}
}

// some are rows of abc.
func some() [][]api.Value {
	return [][]api.Value{
		row(num(2), num(10), text("x")),
		row(num(1), null, text("y")),
		row(null, num(-3), text("x")),
		row(num(2), num(5), null),
		row(num(1), null, text("")),
		row(null, num(7), text("x")),
	}
}

// asked is what a text asks.
func asked(t *testing.T, s string) ask.Query {
	t.Helper()
	q, err := ask.Parse(s)
	if err != nil {
		t.Fatalf("%q asks nothing: %v", s, err)
	}
	return q
}

// printed are rows as a text: values with a comma between, rows with a blank.
func printed(rows [][]api.Value) string {
	var l []string
	for _, row := range rows {
		var values []string
		for _, v := range row {
			values = append(values, value.Print(v))
		}
		l = append(l, strings.Join(values, ","))
	}
	return strings.Join(l, " ")
}

// wantOf says whether just those rows come of what a text asks of rows.
func wantOf(t *testing.T, l []api.Column, rows [][]api.Value, s, want string) {
	t.Helper()
	got, err := query.Run(l, rows, asked(t, s))
	if err != nil || printed(got) != want {
		t.Errorf("%q is\n%s, %v, not\n%s", s, printed(got), err, want)
	}
}

// wrongOf says whether what a text asks is just that error, at no place, and nothing else is told; also if there are no rows.
func wrongOf(t *testing.T, s string, want api.Errno) {
	t.Helper()
	for _, rows := range [][][]api.Value{some(), nil} {
		got, err := query.Run(abc(), rows, asked(t, s))
		if e, place := plain.Place(err); e != want || place != -1 {
			t.Errorf("%q: error %d at %d, not %d at no place", s, e, place, want)
		}
		if got != nil {
			t.Errorf("%q: beside the error %q is told", s, printed(got))
		}
	}
}

// 12.1: ErrName: there is no such column, of By or of an item.
func TestName(t *testing.T) {
	for _, s := range []string{
		"select d", "select a, d", "select d, a", "select aa", "select count", "select a, b, c, d",
		"select count(d)", "select max(d)", "select min(d)", "select sum(d)", "select count(*), sum(d)", "select count(count)",
		"select a by d", "select d by d", "select a by a, d", "select a by d, a", "select count(*) by d", "select d by a", "select max(d) by a",
		"select d order 1", "select d limit 1",
	} {
		wrongOf(t, s, api.ErrName)
	}
}

// 12.1: ErrArg: a sum of a Text; all else may come of one.
func TestSumOfTexts(t *testing.T) {
	for _, s := range []string{"select sum(c)", "select count(*), sum(c)", "select sum(a), sum(c)", "select sum(c) by c", "select c, sum(c) by c", "select sum(c) by a"} {
		wrongOf(t, s, api.ErrArg)
	}
	wantOf(t, abc(), some(), "select max(c), min(c), count(c), sum(a), sum(b)", "'y','',5,6,19")
}

// 12.1: ErrState: it has no Fn, By does not have it, and there is a By, or an item with a Fn.
func TestStandsAlone(t *testing.T) {
	for _, s := range []string{
		"select a, count(*)", "select count(*), a", "select a, b, max(a)", "select max(a), a", "select a, sum(a)", "select c, min(c)", "select a, count(a)",
		"select a by b", "select a, b by a", "select b, a by a", "select c by a, b", "select a, count(*) by b", "select a, b, count(*) by a", "select count(b), b by a",
	} {
		wrongOf(t, s, api.ErrState)
	}
	for s, want := range map[string]string{
		"select a, b limit 1":            "2,10",
		"select c by c limit 2":          "null ''",
		"select a, b by b, a limit 1":    "1,null",
		"select a, max(b) by a limit 1":  "null,7",
		"select max(b), a by a limit 1":  "7,null",
		"select max(b) by a limit 1":     "7",
		"select max(a), min(a) limit 10": "2,1",
	} {
		wantOf(t, abc(), some(), s, want)
	}
}

// 12.1: the error that comes first: By, one by one, then items, one by one, and of each in the order that is told.
func TestFirstError(t *testing.T) {
	for s, want := range map[string]api.Errno{
		"select sum(c) by d":            api.ErrName,
		"select sum(c) by a, d":         api.ErrName,
		"select b by d":                 api.ErrName,
		"select b, sum(c), d by a, d":   api.ErrName,
		"select d, sum(c), a":           api.ErrName,
		"select d, a, sum(c)":           api.ErrName,
		"select sum(c), d, a":           api.ErrArg,
		"select sum(c), a, d":           api.ErrArg,
		"select a, sum(c), d":           api.ErrState,
		"select a, d, sum(c)":           api.ErrState,
		"select a, sum(c), d by a":      api.ErrArg,
		"select a, d, sum(c) by a":      api.ErrName,
		"select a, b, sum(c), d by a":   api.ErrState,
		"select count(*), b, d by a":    api.ErrState,
		"select count(*), d, b by a":    api.ErrName,
		"select d by a":                 api.ErrName,
		"select d, count(*)":            api.ErrName,
		"select count(*), sum(c), a":    api.ErrArg,
		"select a, sum(c) by b":         api.ErrState,
		"select sum(c), a by b":         api.ErrArg,
		"select max(d), sum(c), a":      api.ErrName,
		"select a, b, c, d":             api.ErrName,
		"select a, b, c, d, count(*)":   api.ErrState,
		"select sum(d), sum(c)":         api.ErrName,
		"select sum(c), sum(d) by c":    api.ErrArg,
		"select c, sum(c), a, d by c":   api.ErrArg,
		"select c, count(*), a, sum(c)": api.ErrState,
	} {
		wrongOf(t, s, want)
	}
}

// 12.1: without By and Fn: of each row its items.
func TestEachRow(t *testing.T) {
	for s, want := range map[string]string{
		"select a":          "2 1 null 2 1 null",
		"select c":          "'x' 'y' 'x' null '' 'x'",
		"select a, b, c":    "2,10,'x' 1,null,'y' null,-3,'x' 2,5,null 1,null,'' null,7,'x'",
		"select c, a":       "'x',2 'y',1 'x',null null,2 '',1 'x',null",
		"select b, b, a, b": "10,10,2,10 null,null,1,null -3,-3,null,-3 5,5,2,5 null,null,1,null 7,7,null,7",
	} {
		wantOf(t, abc(), some(), s, want)
	}
	for _, s := range []string{"select a", "select a, b, c", "select c order 1 desc limit 3"} {
		wantOf(t, abc(), nil, s, "")
		wantOf(t, abc(), [][]api.Value{}, s, "")
	}
}

// 12.1: columns that are called as functions are.
func TestCalledAsFunctions(t *testing.T) {
	l := []api.Column{{ID: 4, Name: "count", Kind: api.Int}, {ID: 2, Name: "sum", Kind: api.Int}}
	rows := [][]api.Value{row(num(3), num(4)), row(num(1), null), row(num(3), num(5))}
	wantOf(t, l, rows, "select sum, count", "4,3 null,1 5,3")
	wantOf(t, l, rows, "select count, count(sum), sum(sum), sum(count), count(*) by count", "1,0,null,1,1 3,2,9,6,2")
}

// 12.1: rows that have the same values of By are together, in the order of these.
func TestTogether(t *testing.T) {
	for s, want := range map[string]string{
		"select a by a":                             "null 1 2",
		"select c by c":                             "null '' 'x' 'y'",
		"select b by b":                             "null -3 5 7 10",
		"select a, count(*) by a":                   "null,2 1,2 2,2",
		"select c, count(*) by c":                   "null,1 '',1 'x',3 'y',1",
		"select a, c by a, c":                       "null,'x' 1,'' 1,'y' 2,null 2,'x'",
		"select a, c by c, a":                       "2,null 1,'' null,'x' 2,'x' 1,'y'",
		"select a, c, count(*) by a, c":             "null,'x',2 1,'',1 1,'y',1 2,null,1 2,'x',1",
		"select count(*) by a, c":                   "2 1 1 1 1",
		"select c by c, a":                          "null '' 'x' 'x' 'y'",
		"select a by a, a":                          "null 1 2",
		"select a, a, sum(b), a by a":               "null,null,4,null 1,1,null,1 2,2,15,2",
		"select b, a, c, count(*) by a, b, c":       "-3,null,'x',1 7,null,'x',1 null,1,'',1 null,1,'y',1 5,2,null,1 10,2,'x',1",
		"select max(a), min(a), sum(a), a by a":     "null,null,null,null 1,1,2,1 2,2,4,2",
		"select a, count(b), count(c), max(c) by a": "null,2,2,'x' 1,0,2,'y' 2,2,1,'x'",
	} {
		wantOf(t, abc(), some(), s, want)
	}
}

// 12.1: the order of what rows are together by is Compare's.
func TestTogetherInOrder(t *testing.T) {
	var rows [][]api.Value
	for _, n := range []int64{10, math.MaxInt64, -1, 9, 0, math.MinInt64, 2, 10, -1} {
		rows = append(rows, row(num(n), null, text("")))
	}
	wantOf(t, abc(), rows, "select a, count(*) by a", "-9223372036854775808,1 -1,2 0,1 2,1 9,1 10,2 9223372036854775807,1")
	rows = nil
	for _, s := range []string{"b", "B", "a", "10", "aa", "9", "a b", "", "~", "aa", " "} {
		rows = append(rows, row(null, null, text(s)))
	}
	wantOf(t, abc(), rows, "select c, count(*) by c", "'',1 ' ',1 '10',1 '9',1 'B',1 'a',1 'a b',1 'aa',2 'b',1 '~',1")
}

// 12.1: without By all are together; also if there are none.
func TestAll(t *testing.T) {
	const all = "select count(*), count(a), max(a), min(a), sum(a), count(b), max(b), min(b), sum(b), count(c), max(c), min(c)"
	wantOf(t, abc(), some(), all, "6,4,2,1,6,4,10,-3,19,5,'y',''")
	wantOf(t, abc(), some()[:1], all, "1,1,2,2,2,1,10,10,10,1,'x','x'")
	wantOf(t, abc(), [][]api.Value{row(null, null, null), row(null, null, null)}, all, "2,0,null,null,null,0,null,null,null,0,null,null")
	for _, none := range [][][]api.Value{nil, {}} {
		wantOf(t, abc(), none, all, "0,0,null,null,null,0,null,null,null,0,null,null")
		wantOf(t, abc(), none, "select count(*)", "0")
		wantOf(t, abc(), none, "select sum(b)", "null")
		wantOf(t, abc(), none, "select max(c) order 1 desc limit 1", "null")
		// With By there are none that have the same values.
		wantOf(t, abc(), none, "select count(*) by a", "")
		wantOf(t, abc(), none, "select a by a", "")
	}
}

// 12.1: how many, the greatest, the least, the sum: of those that are not Null; noughts and empty texts are something.
func TestPassesNothingBy(t *testing.T) {
	rows := [][]api.Value{row(num(1), num(0), text("")), row(num(1), null, null), row(num(2), null, null), row(num(1), num(-5), text("~")), row(num(3), num(0), text(""))}
	wantOf(t, abc(), rows, "select a, count(*), count(b), max(b), min(b), sum(b) by a", "1,3,2,0,-5,-5 2,1,0,null,null,null 3,1,1,0,0,0")
	wantOf(t, abc(), rows, "select a, count(*), count(c), max(c), min(c) by a", "1,3,2,'~','' 2,1,0,null,null 3,1,1,'',''")
	wantOf(t, abc(), rows[:1], "select max(b), min(b), sum(b), max(c)", "0,0,0,''")
	wantOf(t, abc(), [][]api.Value{row(num(-7), null, null), row(null, null, null), row(num(-9), null, null)}, "select max(a), min(a), sum(a), count(a)", "-7,-9,-16,2")
}

// 12.1: the sum wraps.
func TestSumWraps(t *testing.T) {
	of := func(l ...int64) [][]api.Value {
		var rows [][]api.Value
		for _, n := range l {
			rows = append(rows, row(num(n), null, null))
		}
		return rows
	}
	wantOf(t, abc(), of(math.MaxInt64, 1), "select sum(a)", "-9223372036854775808")
	wantOf(t, abc(), of(math.MinInt64, -1), "select sum(a)", "9223372036854775807")
	wantOf(t, abc(), of(math.MinInt64, math.MinInt64), "select sum(a)", "0")
	wantOf(t, abc(), of(math.MaxInt64, math.MaxInt64, math.MaxInt64), "select sum(a)", "9223372036854775805")
	wantOf(t, abc(), of(math.MaxInt64, 5, -5), "select sum(a)", "9223372036854775807")
}

// 12.1: in the Order, by Compare; Desc: the other way round; those that are the same in all stay as they stood.
func TestOrder(t *testing.T) {
	for s, want := range map[string]string{
		"select a order 1":                              "null null 1 1 2 2",
		"select a order 1 desc":                         "2 2 1 1 null null",
		"select c order 1":                              "null '' 'x' 'x' 'x' 'y'",
		"select c order 1 desc":                         "'y' 'x' 'x' 'x' '' null",
		"select a, b order 1":                           "null,-3 null,7 1,null 1,null 2,10 2,5",
		"select a, b order 1 desc":                      "2,10 2,5 1,null 1,null null,-3 null,7",
		"select a, b order 2":                           "1,null 1,null null,-3 2,5 null,7 2,10",
		"select a, b order 2 desc":                      "2,10 null,7 2,5 null,-3 1,null 1,null",
		"select a, b order 1, 2":                        "null,-3 null,7 1,null 1,null 2,5 2,10",
		"select a, b order 1, 2 desc":                   "null,7 null,-3 1,null 1,null 2,10 2,5",
		"select a, b order 1 desc, 2":                   "2,5 2,10 1,null 1,null null,-3 null,7",
		"select a, b order 1 desc, 2 desc":              "2,10 2,5 1,null 1,null null,7 null,-3",
		"select a, c order 2, 1":                        "2,null 1,'' null,'x' null,'x' 2,'x' 1,'y'",
		"select a, c order 2 desc, 1 desc":              "1,'y' 2,'x' null,'x' null,'x' 1,'' 2,null",
		"select c, b order 1":                           "null,5 '',null 'x',10 'x',-3 'x',7 'y',null",
		"select c, b order 1 desc":                      "'y',null 'x',10 'x',-3 'x',7 '',null null,5",
		"select c, b order 1, 1 desc":                   "null,5 '',null 'x',10 'x',-3 'x',7 'y',null",
		"select a, b, a order 3 desc, 1, 2":             "2,5,2 2,10,2 1,null,1 1,null,1 null,-3,null null,7,null",
		"select a, sum(b) by a order 2":                 "1,null null,4 2,15",
		"select a, sum(b) by a order 2 desc":            "2,15 null,4 1,null",
		"select a, count(*) by a order 2":               "null,2 1,2 2,2",
		"select a, count(*) by a order 2 desc":          "null,2 1,2 2,2",
		"select a, count(*) by a order 1 desc":          "2,2 1,2 null,2",
		"select count(*), c by c order 1 desc":          "3,'x' 1,null 1,'' 1,'y'",
		"select count(*), c by c order 1, 2 desc":       "1,'y' 1,'' 1,null 3,'x'",
		"select c, a by c, a order 2":                   "'x',null '',1 'y',1 null,2 'x',2",
		"select max(b), min(b) order 2, 1 desc":         "10,-3",
		"select max(c), a by a order 1 desc, 2 desc":    "'y',1 'x',2 'x',null",
		"select a, b, c order 3, 2 desc, 1 desc":        "2,5,null 1,null,'' 2,10,'x' null,7,'x' null,-3,'x' 1,null,'y'",
		"select b, c, count(*) by c, b order 3, 2 desc": "null,'y',1 -3,'x',1 7,'x',1 10,'x',1 null,'',1 5,null,1",
	} {
		wantOf(t, abc(), some(), s, want)
	}
}

// 12.1: many that are the same stay as they stood, whichever way round.
func TestOrderStays(t *testing.T) {
	var rows [][]api.Value
	for i := range 1000 {
		rows = append(rows, row(num(int64(i*7%3)), num(int64(i)), null))
	}
	for _, s := range []string{"select a, b order 1", "select a, b order 1 desc"} {
		got, err := query.Run(abc(), rows, asked(t, s))
		if err != nil || len(got) != len(rows) {
			t.Fatalf("%q: %d rows, %v", s, len(got), err)
		}
		for i := 1; i < len(got); i++ {
			if got[i-1][0] == got[i][0] && got[i-1][1].Num > got[i][1].Num {
				t.Fatalf("%q: %d stands ahead of %d", s, got[i-1][1].Num, got[i][1].Num)
			}
		}
	}
}

// 12.1: at most Limit, 0: all; those that are first in the Order.
func TestLimit(t *testing.T) {
	for s, want := range map[string]string{
		"select a limit 1":                           "2",
		"select a limit 5":                           "2 1 null 2 1",
		"select a limit 6":                           "2 1 null 2 1 null",
		"select a limit 7":                           "2 1 null 2 1 null",
		"select a limit 1000000":                     "2 1 null 2 1 null",
		"select b order 1 desc limit 2":              "10 7",
		"select b order 1 limit 3":                   "null null -3",
		"select a, count(*) by a limit 2":            "null,2 1,2",
		"select a, sum(b) by a order 2 desc limit 1": "2,15",
		"select count(*) limit 1":                    "6",
		"select sum(b), count(a) limit 2":            "19,4",
	} {
		wantOf(t, abc(), some(), s, want)
	}
	q := asked(t, "select a")
	if got, err := query.Run(abc(), some(), q); q.Limit != 0 || err != nil || len(got) != len(some()) {
		t.Errorf("without a limit there are %d rows, %v", len(got), err)
	}
}

// 12.1: Where is not asked here: neither whether it holds, nor whether it may be asked.
func TestWhere(t *testing.T) {
	for s, want := range map[string]string{
		"select a where a = 99":                   "2 1 null 2 1 null",
		"select a where d = 1":                    "2 1 null 2 1 null",
		"select count(*) where c = 1":             "6",
		"select a, count(*) where a is null by a": "null,2 1,2 2,2",
	} {
		wantOf(t, abc(), some(), s, want)
	}
	round := &api.Cond{Code: api.And}
	round.Left, round.Right = round, round
	got, err := query.Run(abc(), some(), ask.Query{Items: []ask.Item{{Column: "a"}}, Where: round})
	if err != nil || printed(got) != "2 1 null 2 1 null" {
		t.Errorf("with a Where that goes round there are %s, %v", printed(got), err)
	}
}
