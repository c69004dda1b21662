package query_test

import (
	"cmp"
	"fmt"
	"math"
	"reflect"
	"slices"
	"strings"
	"testing"

	"millpond/api"
	"millpond/ask"
	"millpond/plain"
	"millpond/query"
	"millpond/value"
)

// die gives numbers that look drawn, the same each time.
type die uint64

func (d *die) n(most int) int {
	*d = *d*6364136223846793005 + 1442695040888963407
	return int(uint64(*d>>33) % uint64(most))
}

// one is one of several.
func one[T any](d *die, l ...T) T { return l[d.n(len(l))] }

// drawn are rows of abc.
func drawn(d *die) [][]api.Value {
	var rows [][]api.Value
	for range d.n(30) {
		rows = append(rows, row(
			one(d, null, num(1), num(2), num(-1)),
			one(d, null, num(0), num(math.MaxInt64), num(math.MinInt64), num(int64(d.n(9)))),
			one(d, null, text(""), text("x"), text("xx"), text("X")),
		))
	}
	return rows
}

// drawnQuery is one that Parse might tell of abc.
func drawnQuery(d *die) ask.Query {
	var q ask.Query
	for range d.n(3) {
		q.By = append(q.By, one(d, "a", "b", "c"))
	}
	for range 1 + d.n(4) {
		q.Items = append(q.Items, ask.Item{Fn: one(d, "", "", "count", "max", "min", "sum"), Column: one(d, "a", "b", "c")})
	}
	if d.n(3) == 0 {
		q.Items = append(q.Items, ask.Item{Fn: "count", Column: "*"})
	}
	for range d.n(3) {
		q.Order = append(q.Order, ask.Order{Which: d.n(len(q.Items)), Desc: d.n(2) == 0})
	}
	q.Limit = one(d, 0, 0, 1, 3, 100)
	return q
}

// told is what comes of rows, found in another way than the program's: the rows that are together are noted by their values as a text, and each that comes is put at once where it belongs.
func told(rows [][]api.Value, q ask.Query) [][]api.Value {
	place := map[string]int{"a": 0, "b": 1, "c": 2}
	fn := slices.ContainsFunc(q.Items, func(item ask.Item) bool { return item.Fn != "" })
	together := map[string][][]api.Value{}
	var keys []string
	key := func(i int) string {
		if len(q.By) == 0 && !fn {
			return fmt.Sprint(i)
		}
		var s strings.Builder
		for _, name := range q.By {
			s.WriteString(value.Print(rows[i][place[name]]))
		}
		return s.String()
	}
	if len(q.By) == 0 && fn {
		keys = []string{""}
	}
	for i := range rows {
		k := key(i)
		if together[k] == nil && !slices.Contains(keys, k) {
			keys = append(keys, k)
		}
		together[k] = append(together[k], rows[i])
	}
	if len(q.By) > 0 {
		insert(keys, func(a, b string) int {
			for _, name := range q.By {
				if c := value.Compare(together[a][0][place[name]], together[b][0][place[name]]); c != 0 {
					return c
				}
			}
			return 0
		})
	}
	var out [][]api.Value
	for _, k := range keys {
		var r []api.Value
		for _, item := range q.Items {
			r = append(r, comes(together[k], item, place[item.Column]))
		}
		out = append(out, r)
	}
	for _, o := range slices.Backward(q.Order) {
		insert(out, func(a, b []api.Value) int {
			if o.Desc {
				a, b = b, a
			}
			return value.Compare(a[o.Which], b[o.Which])
		})
	}
	if q.Limit > 0 {
		out = out[:min(len(out), q.Limit)]
	}
	return out
}

// insert sorts by putting one after the other ahead of those that are greater.
func insert[T any](l []T, compare func(a, b T) int) {
	for i := range l {
		for j := i; j > 0 && compare(l[j-1], l[j]) > 0; j-- {
			l[j-1], l[j] = l[j], l[j-1]
		}
	}
}

// comes is what comes of an item of rows.
func comes(rows [][]api.Value, item ask.Item, place int) api.Value {
	if item.Fn == "" {
		return rows[0][place]
	}
	if item.Column == "*" {
		return num(int64(len(rows)))
	}
	var l []api.Value
	sum := uint64(0)
	for _, r := range rows {
		if r[place] != null {
			l = append(l, r[place])
			sum += uint64(r[place].Num)
		}
	}
	slices.SortFunc(l, func(a, b api.Value) int {
		return cmp.Or(cmp.Compare(a.Num, b.Num), strings.Compare(a.Text, b.Text))
	})
	switch {
	case item.Fn == "count":
		return num(int64(len(l)))
	case len(l) == 0:
		return null
	case item.Fn == "max":
		return l[len(l)-1]
	case item.Fn == "min":
		return l[0]
	}
	return num(int64(sum))
}

// wrongOne is the error of a question of abc.
func wrongOne(q ask.Query) api.Errno {
	several := len(q.By) > 0
	for _, item := range q.Items {
		several = several || item.Fn != ""
	}
	for _, item := range q.Items {
		if item.Fn == "sum" && item.Column == "c" {
			return api.ErrArg
		}
		if item.Fn == "" && several && !slices.Contains(q.By, item.Column) {
			return api.ErrState
		}
	}
	return api.OK
}

// 12.1: what comes of many rows and questions.
func TestDrawn(t *testing.T) {
	d, right := die(1), 0
	for range 20_000 {
		rows, q := drawn(&d), drawnQuery(&d)
		got, err := query.Run(abc(), rows, q)
		if e, place := plain.Place(err); e != wrongOne(q) || place != -1 {
			t.Fatalf("%+v of %s: error %d at %d, not %d", q, printed(rows), e, place, wrongOne(q))
		}
		if err != nil {
			if got != nil {
				t.Fatalf("%+v: beside the error %s is told", q, printed(got))
			}
			continue
		}
		right++
		if want := told(rows, q); printed(got) != printed(want) || len(got) != len(want) {
			t.Fatalf("%+v of\n%s is\n%s, not\n%s", q, printed(rows), printed(got), printed(want))
		}
	}
	if right < 5000 {
		t.Errorf("only %d questions may be asked", right)
	}
}

// P1, P2: whatever it is given, a call ends, and none panics; beside an error nothing is told.
func TestWhatever(t *testing.T) {
	d := die(2)
	names := []string{"a", "b", "c", "d", "*", "", "\xff", "count"}
	values := []api.Value{null, num(1), num(-1), text("x"), {Kind: -3, Num: 2, Text: "'"}, {Kind: 9}, {Num: 5}, {Kind: api.Text, Num: 4}}
	for range 50_000 {
		var l []api.Column
		for range d.n(4) {
			l = append(l, api.Column{ID: d.n(3), Name: one(&d, names...), Kind: d.n(5) - 1})
		}
		var rows [][]api.Value
		for range d.n(6) {
			var r []api.Value
			for range d.n(5) {
				r = append(r, one(&d, values...))
			}
			rows = append(rows, r)
		}
		var q ask.Query
		for range d.n(4) {
			q.Items = append(q.Items, ask.Item{Fn: one(&d, "", "", "count", "max", "min", "sum", "avg", "\x00"), Column: one(&d, names...)})
		}
		for range d.n(3) {
			q.By = append(q.By, one(&d, names...))
		}
		for range d.n(3) {
			q.Order = append(q.Order, ask.Order{Which: one(&d, 0, 1, 2, -1, 7, math.MinInt, math.MaxInt), Desc: d.n(2) == 0})
		}
		q.Limit = one(&d, 0, 1, 2, -1, math.MinInt, math.MaxInt)
		got, err := query.Run(l, rows, q)
		switch e, place := plain.Place(err); e {
		case api.OK:
		case api.ErrName, api.ErrArg, api.ErrState:
			if got != nil || place != -1 {
				t.Fatalf("%+v: beside error %d at %d %s is told", q, e, place, printed(got))
			}
		default:
			t.Fatalf("%+v: error %d", q, e)
		}
	}
}

// P1: nothing at all, and what no text asks.
func TestNothing(t *testing.T) {
	if got, err := query.Run(nil, nil, ask.Query{}); err != nil || len(got) != 0 {
		t.Errorf("of nothing comes %v, %v", got, err)
	}
	if got, err := query.Run(abc(), some(), ask.Query{}); err != nil || !reflect.DeepEqual(got, [][]api.Value{{}, {}, {}, {}, {}, {}}) {
		t.Errorf("of rows without items comes %v, %v", got, err)
	}
	for _, item := range []ask.Item{{Column: "*"}, {Fn: "max", Column: "*"}, {Fn: "sum", Column: "*"}, {Fn: "count"}, {}} {
		if got, err := query.Run(abc(), some(), ask.Query{Items: []ask.Item{item}}); api.Tell(err) != api.ErrName || got != nil {
			t.Errorf("of %+v comes %v, %v", item, got, err)
		}
	}
}

// P1: many rows end soon enough, whether they are together, or each alone.
func TestMany(t *testing.T) {
	const n = 200_000
	var rows [][]api.Value
	for i := range n {
		rows = append(rows, row(num(int64(i*7919%n)), num(int64(i%2)), text("x")))
	}
	for s, want := range map[string]int{"select a, c order 1 desc": n, "select a, count(*), sum(b) by a order 3, 1 desc": n, "select b, max(a), count(*) by b, c": 2, "select sum(a)": 1} {
		if got, err := query.Run(abc(), rows, asked(t, s)); err != nil || len(got) != want {
			t.Errorf("%q: %d rows, %v", s, len(got), err)
		}
	}
}

// questions are some that are asked of abc, of each kind.
func questions() []string {
	return []string{
		"select a, b, c", "select b order 1 desc limit 2", "select c, a by a, c order 2 desc, 1", "select a, sum(b), count(*) by a", "select max(a), min(b), count(c) order 3, 1 limit 1",
		"select d", "select sum(c)", "select a by b",
	}
}

// P4: nothing that is handed in is written into, nor what stands behind a list's length.
func TestLeavesAll(t *testing.T) {
	for _, s := range questions() {
		l, rows, q := abc(), some(), asked(t, s)
		items, by, order := slices.Clone(q.Items), slices.Clone(q.By), slices.Clone(q.Order)
		first := make([]*api.Value, len(rows))
		for i := range rows {
			first[i] = &rows[i][0]
		}
		// The last columns and rows stand behind the lists' lengths.
		query.Run(l[:2:3], rows[:3:6], q)
		query.Run(l, rows, q)
		if !reflect.DeepEqual(l, abc()) || !reflect.DeepEqual(rows, some()) {
			t.Errorf("%q: columns or rows are written into", s)
		}
		for i := range rows {
			if first[i] != &rows[i][0] {
				t.Errorf("%q: another row stands at %d", s, i)
			}
		}
		if !reflect.DeepEqual(q.Items, items) || !slices.Equal(q.By, by) || !slices.Equal(q.Order, order) {
			t.Errorf("%q: what is asked is written into", s)
		}
	}
}

// P4: what comes out is the caller's, and no two lists of it share memory: who writes into it, or behind a list's length, changes nothing else.
func TestOwn(t *testing.T) {
	for _, s := range questions() {
		rows, q := some(), asked(t, s)
		want, _ := query.Run(abc(), rows, q)
		got, _ := query.Run(abc(), rows, q)
		if !reflect.DeepEqual(got, want) {
			t.Errorf("%q is told in two ways: %s, %s", s, printed(got), printed(want))
		}
		for i, r := range got {
			if !reflect.DeepEqual(r, want[i]) {
				t.Errorf("%q: writing into another row has changed row %d", s, i)
			}
			for j := range r {
				r[j] = text("written")
			}
			_ = append(r, text("written"))
		}
		if !reflect.DeepEqual(rows, some()) {
			t.Errorf("%q shares memory with what was handed in", s)
		}
		if again, _ := query.Run(abc(), rows, q); !reflect.DeepEqual(again, want) {
			t.Errorf("%q is told otherwise later: %s", s, printed(again))
		}
	}
}

// P4: what comes out hangs on the values alone, not on how a list is laid.
func TestEmptyLists(t *testing.T) {
	q := asked(t, "select a, b limit 2")
	q.By, q.Order = []string{}, []ask.Order{}
	if got, err := query.Run(abc(), some(), q); err != nil || printed(got) != "2,10 1,null" {
		t.Errorf("with lists that are empty, not nil, there are %s, %v", printed(got), err)
	}
}
