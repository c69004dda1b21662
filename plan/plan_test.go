package plan_test

import (
	"fmt"
	"math"
	"reflect"
	"slices"
	"strings"
	"testing"

	"millpond/api"
	"millpond/ask"
	"millpond/bucket"
	"millpond/commit"
	"millpond/file"
	"millpond/log"
	"millpond/plain"
	"millpond/plan"
	"millpond/scan"
)

var null = api.Value{}

func num(n int64) api.Value { return api.Value{Kind: api.Int, Num: n} }

func text(s string) api.Value { return api.Value{Kind: api.Text, Text: s} }

func row(l ...api.Value) []api.Value { return l }

// numbers is a column of numbers.
func numbers(id int, name string) api.Column { return api.Column{ID: id, Name: name, Kind: api.Int} }

// words is a column of texts.
func words(id int, name string) api.Column { return api.Column{ID: id, Name: name, Kind: api.Text} }

// counted are rows of one number each, from first on.
func counted(first, n int) [][]api.Value {
	var l [][]api.Value
	for i := range n {
		l = append(l, row(num(int64(first+i))))
	}
	return l
}

// by is the text of a commit: by whom and how, and its actions.
func by(who string, actions ...string) string {
	return strings.Join(append([]string{"commit " + who}, actions...), "\n") + "\n"
}

// cond is a condition by its text.
func cond(t *testing.T, s string) *api.Cond {
	t.Helper()
	c, err := ask.Cond(s)
	if err != nil {
		t.Fatalf("Cond of %q: %v", s, err)
	}
	return c
}

// lay puts a thing into a bucket.
func lay(t *testing.T, b *bucket.Bucket, key, s string) {
	t.Helper()
	if err := b.Put(key, s); err != nil {
		t.Fatalf("Put at %q: %v", key, err)
	}
}

// written are the bytes of a file.
func written(t *testing.T, l []api.Column, rows [][]api.Value) string {
	t.Helper()
	f, err := file.Make(l, rows)
	if err != nil {
		t.Fatalf("Make: %v", err)
	}
	s, err := file.Write(f)
	if err != nil {
		t.Fatalf("Write: %v", err)
	}
	return s
}

// all is what lies in a bucket.
func all(b *bucket.Bucket) string {
	var s strings.Builder
	for _, key := range b.List("") {
		thing, _ := b.Get(key)
		fmt.Fprintf(&s, "%q %q\n", key, thing)
	}
	return s.String()
}

// loaded is a table at a version (below 0: the last one).
func loaded(t *testing.T, b *bucket.Bucket, version int) api.Snapshot {
	t.Helper()
	s, err := commit.Load(b, version)
	if err != nil {
		t.Fatalf("Load of %d: %v", version, err)
	}
	return s
}

// rows are what the rows of a table have, at a version (below 0: the last one).
func rows(t *testing.T, b *bucket.Bucket, version int) [][]api.Value {
	t.Helper()
	found, _, err := scan.All(b, loaded(t, b, version), nil)
	if err != nil {
		t.Fatalf("All of %d: %v", version, err)
	}
	var l [][]api.Value
	for _, r := range found {
		l = append(l, r.Values)
	}
	return l
}

// wantRows says whether a table has just these rows now.
func wantRows(t *testing.T, what string, b *bucket.Bucket, want ...[]api.Value) {
	t.Helper()
	if got := rows(t, b, -1); fmt.Sprint(got) != fmt.Sprint(want) {
		t.Errorf("%s: the rows are %v, not %v", what, got, want)
	}
}

// does does what was planned.
func does(t *testing.T, b *bucket.Bucket, p *plan.Plan, err error) {
	t.Helper()
	if err != nil {
		t.Fatalf("no plan: %v", err)
	}
	if _, err := plan.Do(b, p); err != nil {
		t.Fatalf("Do of %+v: %v", p.Commit, err)
	}
}

// created is a bucket with a table of these columns, at version 1.
func created(t *testing.T, l ...api.Column) *bucket.Bucket {
	t.Helper()
	b := &bucket.Bucket{}
	p, err := plan.Create(b, "first", l)
	does(t, b, p, err)
	return b
}

// inserts does that rows come, by somebody: they lie in a file that is called by them and _0.
func inserts(t *testing.T, b *bucket.Bucket, tx string, l [][]api.Value) {
	t.Helper()
	p, err := plan.Insert(b, tx, l)
	does(t, b, p, err)
}

// deletes does that rows go.
func deletes(t *testing.T, b *bucket.Bucket, tx, c string) {
	t.Helper()
	p, err := plan.Delete(b, tx, cond(t, c))
	does(t, b, p, err)
}

// alters does a change of columns.
func alters(t *testing.T, b *bucket.Bucket, c plan.Change) {
	t.Helper()
	p, err := plan.Alter(b, "alters", c)
	does(t, b, p, err)
}

// wantErr says whether an error is just that Errno, at that place (-1: none).
func wantErr(t *testing.T, what string, err error, want api.Errno, at int) {
	t.Helper()
	if e, place := plain.Place(err); e != want || place != at {
		t.Errorf("%s: error %d at %d, not %d at %d", what, e, place, want, at)
	}
}

// wantNone says whether just that error came, and no plan beside it.
func wantNone(t *testing.T, what string, p *plan.Plan, err error, want api.Errno, at int) {
	t.Helper()
	wantErr(t, what, err, want, at)
	if p != nil {
		t.Errorf("%s: there is a plan, %+v, beside an error", what, p)
	}
}

// wantPlan says whether just that commit is planned, of so many rows, of the table as it is.
func wantPlan(t *testing.T, what string, b *bucket.Bucket, p *plan.Plan, err error, rows int, want string) {
	t.Helper()
	wantErr(t, what, err, api.OK, -1)
	if p == nil {
		t.Fatalf("%s: there is no plan", what)
	}
	if got, err := log.Print(p.Commit); got != want || err != nil {
		t.Errorf("%s: planned is %q (%+v, %v), not %q", what, got, p.Commit, err, want)
	}
	if p.Rows != rows {
		t.Errorf("%s: %d rows, not %d", what, p.Rows, rows)
	}
	if now := loaded(t, b, -1); !reflect.DeepEqual(p.Seen, now) {
		t.Errorf("%s: seen is %+v, not %+v", what, p.Seen, now)
	}
}

// planner is one of those that plan.
type planner struct {
	name string
	plan func(b *bucket.Bucket, tx string) (*plan.Plan, error)
}

// planners are all that plan, with what they may be given of a table of one column, a, of numbers. Create is the first one.
func planners() []planner {
	return []planner{
		{"Create", func(b *bucket.Bucket, tx string) (*plan.Plan, error) {
			return plan.Create(b, tx, []api.Column{numbers(1, "a")})
		}},
		{"Alter", func(b *bucket.Bucket, tx string) (*plan.Plan, error) {
			return plan.Alter(b, tx, plan.Change{Kind: plan.Called, Name: "a", To: "b"})
		}},
		{"Insert", func(b *bucket.Bucket, tx string) (*plan.Plan, error) { return plan.Insert(b, tx, counted(1, 2)) }},
		{"Delete", func(b *bucket.Bucket, tx string) (*plan.Plan, error) { return plan.Delete(b, tx, nil) }},
		{"Update", func(b *bucket.Bucket, tx string) (*plan.Plan, error) {
			return plan.Update(b, tx, nil, []plan.Set{{Column: "a", Value: num(1)}})
		}},
		{"Compact", plan.Compact},
	}
}

// wrongPlanners are those of them of which the rest may be wrong, with what is wrong of every table.
func wrongPlanners() []planner {
	round := &api.Cond{Code: api.Not}
	round.Left = round
	return []planner{
		{"Create", func(b *bucket.Bucket, tx string) (*plan.Plan, error) { return plan.Create(b, tx, nil) }},
		{"Alter", func(b *bucket.Bucket, tx string) (*plan.Plan, error) { return plan.Alter(b, tx, plan.Change{}) }},
		{"Insert", func(b *bucket.Bucket, tx string) (*plan.Plan, error) { return plan.Insert(b, tx, nil) }},
		{"Delete", func(b *bucket.Bucket, tx string) (*plan.Plan, error) { return plan.Delete(b, tx, round) }},
		{"Update", func(b *bucket.Bucket, tx string) (*plan.Plan, error) {
			return plan.Update(b, tx, nil, []plan.Set{{}, {}})
		}},
	}
}

// P5: kinds of changes are told by their numbers.
func TestKinds(t *testing.T) {
	if plan.More != 1 || plan.Less != 2 || plan.Called != 3 {
		t.Errorf("More, Less, Called are %d, %d, %d", plan.More, plan.Less, plan.Called)
	}
}

// 11.1: who plans is a Name of at most 12 letters; the commit is theirs.
func TestTx(t *testing.T) {
	for i, x := range planners() {
		for _, tx := range []string{"t", "a_1", "t__", "null", "abcdefghijkl"} {
			b := &bucket.Bucket{}
			if i > 0 {
				b = created(t, numbers(1, "a"))
				inserts(t, b, "u", counted(1, 2))
				inserts(t, b, "v", counted(1, 2))
			}
			p, err := x.plan(b, tx)
			if err != nil || p.Commit.Tx != tx {
				t.Errorf("%s by %q is %+v, %v", x.name, tx, p, err)
			}
			does(t, b, p, err)
		}
	}
}

// 11.1: whoever may not be called so plans nothing, whatever else is wrong.
func TestTxWrong(t *testing.T) {
	spoilt := &bucket.Bucket{}
	lay(t, spoilt, "log/000001", "x")
	for _, b := range []*bucket.Bucket{{}, created(t, numbers(1, "a")), spoilt, nil} {
		was := all(b)
		for _, x := range append(planners(), wrongPlanners()...) {
			for _, tx := range []string{"", "abcdefghijklm", "abcdefghijklmnop", "abcdefghijklmnopq", "T", "1t", "_t", "t u", "t-u", "t\n", "t\x00", "é", strings.Repeat("t", 10_000)} {
				p, err := x.plan(b, tx)
				wantNone(t, fmt.Sprintf("%s by %.20q", x.name, tx), p, err, api.ErrArg, -1)
			}
		}
		if now := all(b); now != was {
			t.Errorf("in the bucket lies %s, not %s", now, was)
		}
	}
}

// 11.1: Load's errors, ahead of those that hang on the table.
func TestLoadErrors(t *testing.T) {
	start := by("t blind", "schema 2 1 a 1 may null")
	for _, logged := range [][]string{
		{""}, {"x"}, {start, "x"}, {start, by("t blind", "remove f")}, {by("t blind", "add f 1")}, {start, start, by("t blind", "schema 1 1 a 1 may null")},
	} {
		b := &bucket.Bucket{}
		for i, s := range logged {
			lay(t, b, log.Key(i+1), s)
		}
		was := all(b)
		for _, x := range append(planners(), wrongPlanners()...) {
			p, err := x.plan(b, "u")
			wantNone(t, fmt.Sprintf("%s behind %q", x.name, logged), p, err, api.ErrForm, -1)
		}
		if now := all(b); now != was {
			t.Errorf("in the bucket lies %s, not %s", now, was)
		}
	}
}

// 11.1: of no columns there is nothing to plan but Create, also if somebody did something.
func TestNoColumns(t *testing.T) {
	begun := &bucket.Bucket{}
	lay(t, begun, log.Key(1), by("t reads"))
	for version, b := range []*bucket.Bucket{{}, begun} {
		for _, x := range append(planners()[1:], wrongPlanners()[1:]...) {
			p, err := x.plan(b, "u")
			wantNone(t, x.name, p, err, api.ErrState, -1)
		}
		if l := b.List("data/"); len(l) > 0 {
			t.Errorf("in the bucket lie %q", l)
		}
		p, err := plan.Create(b, "u", []api.Column{numbers(0, "a")})
		wantPlan(t, "Create", b, p, err, 0, by("u blind", "schema 2 1 a 1 may null"))
		if p.Seen.Version != version {
			t.Errorf("seen is version %d, not %d", p.Seen.Version, version)
		}
	}
}

// P1: a Bucket that is nil has nothing, and no call panics.
func TestNilBucket(t *testing.T) {
	for _, x := range append(planners()[1:], wrongPlanners()[1:]...) {
		p, err := x.plan(nil, "u")
		wantNone(t, x.name, p, err, api.ErrState, -1)
	}
	p, err := plan.Create(nil, "u", []api.Column{numbers(0, "a")})
	wantPlan(t, "Create", nil, p, err, 0, by("u blind", "schema 2 1 a 1 may null"))
	version, err := plan.Do(nil, p)
	wantErr(t, "Do", err, api.ErrDevice, -1)
	went, vacuumErr := plan.Vacuum(nil, 5)
	wantErr(t, "Vacuum", vacuumErr, api.OK, -1)
	if version != 0 || went != 0 {
		t.Errorf("version %d, %d went", version, went)
	}
}

// 11.1: what is seen is the last version; who plans changes nothing but what is put.
func TestSeen(t *testing.T) {
	b := created(t, numbers(1, "a"))
	for version := 1; version < 5; version++ {
		for _, x := range planners()[1:] {
			p, err := x.plan(b, fmt.Sprint("u", version, strings.ToLower(x.name)))
			if err != nil || p.Seen.Version != version || !reflect.DeepEqual(p.Seen, loaded(t, b, -1)) {
				t.Errorf("%s: %+v, %v, at version %d", x.name, p, err, version)
			}
		}
		inserts(t, b, fmt.Sprint("t", version), counted(1, 3))
	}
	if l := b.List("log/"); len(l) != 5 {
		t.Errorf("there are %q", l)
	}
}

// 11.2: Create gives numbers from 1 on, whatever the columns had.
func TestCreate(t *testing.T) {
	must := api.Column{ID: 7, Name: "c_1", Kind: api.Text, Must: true, Default: text("x y")}
	for _, x := range []struct {
		l    []api.Column
		want string
	}{
		{[]api.Column{numbers(0, "a")}, "schema 2 1 a 1 may null"},
		{[]api.Column{numbers(1, "a")}, "schema 2 1 a 1 may null"},
		{[]api.Column{words(5, "b"), numbers(5, "a"), must}, "schema 4 1 b 2 may null;2 a 1 may null;3 c_1 2 must 'x y'"},
		{[]api.Column{{Name: "a", Kind: api.Int, Must: true}}, "schema 2 1 a 1 must null"},
		{[]api.Column{numbers(-1, "a"), numbers(math.MinInt, "b"), numbers(math.MaxInt, "c")}, "schema 4 1 a 1 may null;2 b 1 may null;3 c 1 may null"},
	} {
		b := &bucket.Bucket{}
		was := slices.Clone(x.l)
		p, err := plan.Create(b, "t", x.l)
		wantPlan(t, "Create", b, p, err, 0, by("t blind", x.want))
		if !slices.Equal(x.l, was) {
			t.Errorf("the columns that were handed in are %v, not %v", x.l, was)
		}
		if len(b.List("")) != 0 {
			t.Error("something is done already")
		}
		does(t, b, p, err)
		if s := loaded(t, b, 1); s.Next != len(x.l)+1 || len(s.Columns) != len(x.l) || len(s.Files) != 0 {
			t.Errorf("the table is %+v", s)
		}
	}
	most := []api.Column{}
	for i := range api.MaxColumns {
		most = append(most, numbers(0, fmt.Sprint("c", i)))
	}
	if s := loaded(t, created(t, most...), 1); len(s.Columns) != api.MaxColumns || s.Next != 9 || s.Columns[7].ID != 8 {
		t.Errorf("the table is %+v", s)
	}
}

// 11.2: columns that are not Right are ErrArg, also if there is a table; else a table that is there is ErrTwice.
func TestCreateWrong(t *testing.T) {
	tooMany := []api.Column{}
	for i := range api.MaxColumns + 1 {
		tooMany = append(tooMany, numbers(i+1, fmt.Sprint("c", i)))
	}
	for _, b := range []*bucket.Bucket{{}, created(t, words(1, "x"))} {
		was := all(b)
		for _, l := range [][]api.Column{
			nil, {}, tooMany, {numbers(1, "a"), words(2, "a")}, {numbers(1, "")}, {numbers(1, "A")}, {numbers(1, "or")}, {numbers(1, "abcdefghijklmnopq")},
			{{ID: 1, Name: "a"}}, {{ID: 1, Name: "a", Kind: 3}}, {{ID: 1, Name: "a", Kind: api.Int, Default: text("x")}}, {{ID: 1, Name: "a", Kind: api.Text, Default: text("'")}}, {numbers(1, "a"), {}},
		} {
			p, err := plan.Create(b, "t", l)
			wantNone(t, fmt.Sprintf("Create of %v", l), p, err, api.ErrArg, -1)
		}
		if now := all(b); now != was {
			t.Errorf("in the bucket lies %s, not %s", now, was)
		}
	}
	b := created(t, words(1, "x"))
	for _, l := range [][]api.Column{{numbers(1, "a")}, {words(1, "x")}} {
		p, err := plan.Create(b, "t", l)
		wantNone(t, "Create where a table is", p, err, api.ErrTwice, -1)
	}
}

// 11.2: Alter plans columns as More, Less, Rename tell them; only More uses a number up, and none comes twice.
func TestAlter(t *testing.T) {
	b := created(t, numbers(1, "a"))
	for _, x := range []struct {
		c    plan.Change
		want string
	}{
		{plan.Change{Kind: plan.More, Column: words(1, "b"), Name: "x", To: "y"}, "schema 3 1 a 1 may null;2 b 2 may null"},
		{plan.Change{Kind: plan.More, Column: api.Column{Name: "c", Kind: api.Int, Must: true, Default: num(7)}}, "schema 4 1 a 1 may null;2 b 2 may null;3 c 1 must 7"},
		{plan.Change{Kind: plan.Called, Name: "b", To: "d"}, "schema 4 1 a 1 may null;2 d 2 may null;3 c 1 must 7"},
		{plan.Change{Kind: plan.Less, Name: "c", To: "a", Column: words(1, "a")}, "schema 4 1 a 1 may null;2 d 2 may null"},
		{plan.Change{Kind: plan.Less, Name: "a"}, "schema 4 2 d 2 may null"},
		{plan.Change{Kind: plan.More, Column: numbers(0, "c")}, "schema 5 2 d 2 may null;4 c 1 may null"},
	} {
		p, err := plan.Alter(b, "t", x.c)
		wantPlan(t, fmt.Sprintf("Alter by %+v", x.c), b, p, err, 0, by("t blind", x.want))
		does(t, b, p, err)
	}
	if l := b.List("data/"); len(l) != 0 {
		t.Errorf("in the bucket lie %q", l)
	}
}

// 11.2: More's, Less', Rename's errors; another Kind is ErrArg.
func TestAlterWrong(t *testing.T) {
	one, full := created(t, numbers(1, "a")), created(t, numbers(1, "a"), numbers(2, "b"), numbers(3, "c"), numbers(4, "d"), numbers(5, "e"), numbers(6, "f"), numbers(7, "g"), numbers(8, "h"))
	for _, x := range []struct {
		b    *bucket.Bucket
		c    plan.Change
		want api.Errno
	}{
		{one, plan.Change{Kind: plan.More, Column: words(9, "a")}, api.ErrTwice},
		{full, plan.Change{Kind: plan.More, Column: words(9, "h")}, api.ErrTwice},
		{full, plan.Change{Kind: plan.More, Column: words(9, "i")}, api.ErrFull},
		{one, plan.Change{Kind: plan.More, Column: words(9, "I")}, api.ErrArg},
		{one, plan.Change{Kind: plan.More, Column: api.Column{Name: "b", Kind: api.Int, Must: true}}, api.ErrArg},
		{one, plan.Change{Kind: plan.More, Name: "b", To: "b"}, api.ErrArg},
		{one, plan.Change{Kind: plan.Less, Name: "b", To: "a"}, api.ErrMissing},
		{one, plan.Change{Kind: plan.Less, Name: "a"}, api.ErrState},
		{one, plan.Change{Kind: plan.Called, Name: "b", To: "B"}, api.ErrMissing},
		{one, plan.Change{Kind: plan.Called, Name: "a", To: "not"}, api.ErrArg},
		{full, plan.Change{Kind: plan.Called, Name: "a", To: "h"}, api.ErrTwice},
		{one, plan.Change{Kind: 0, Column: words(2, "b"), Name: "a", To: "b"}, api.ErrArg},
		{one, plan.Change{Kind: 4, Column: words(2, "b"), Name: "a", To: "b"}, api.ErrArg},
		{one, plan.Change{Kind: -1, Column: words(2, "b"), Name: "a", To: "b"}, api.ErrArg},
		{one, plan.Change{Kind: math.MaxInt, Column: words(2, "b"), Name: "a", To: "b"}, api.ErrArg},
	} {
		was := all(x.b)
		p, err := plan.Alter(x.b, "t", x.c)
		wantNone(t, fmt.Sprintf("Alter by %+v", x.c), p, err, x.want, -1)
		if now := all(x.b); now != was {
			t.Errorf("in the bucket lies %s, not %s", now, was)
		}
	}
}

// 11.1, 11.2: rows of Insert lie at the key of who inserts, as Make and Write tell them, and are a file once it is done.
func TestInsert(t *testing.T) {
	b := created(t, numbers(1, "a"), words(2, "b"))
	l := loaded(t, b, 1).Columns
	some := [][]api.Value{row(num(7), text("x")), row(null, text("")), row(num(-1), null)}
	p, err := plan.Insert(b, "t", some)
	wantPlan(t, "Insert", b, p, err, 3, by("t blind", "add t_0 3"))
	if s, err := b.Get("data/t_0"); s != written(t, l, some) || err != nil {
		t.Errorf("at data/t_0 lies %q, %v", s, err)
	}
	if keys := b.List(""); !slices.Equal(keys, []string{"data/t_0", "log/000001"}) {
		t.Errorf("in the bucket lie %q", keys)
	}
	wantRows(t, "planned", b)
	does(t, b, p, err)
	wantRows(t, "done", b, some...)
	if s := loaded(t, b, -1); !reflect.DeepEqual(s.Files, []api.Entry{{Path: "t_0", Rows: 3}}) {
		t.Errorf("the table is %+v", s)
	}
	for i, n := range []int{1, api.GroupRows, api.GroupRows + 1, api.MaxRows} {
		tx := fmt.Sprint("u", i)
		p, err := plan.Insert(b, tx, slices.Repeat(some[:1], n))
		wantPlan(t, "Insert", b, p, err, n, by(tx+" blind", fmt.Sprint("add ", tx, "_0 ", n)))
		does(t, b, p, err)
	}
}

// 11.1: rows are put as the table's columns are, at what version ever they came.
func TestInsertColumns(t *testing.T) {
	b := created(t, numbers(1, "a"), words(2, "b"))
	alters(t, b, plan.Change{Kind: plan.Less, Name: "a"})
	alters(t, b, plan.Change{Kind: plan.More, Column: numbers(0, "a")})
	p, err := plan.Insert(b, "t", [][]api.Value{row(text("x"), num(1))})
	wantPlan(t, "Insert", b, p, err, 1, by("t blind", "add t_0 1"))
	if f, err := scan.Open(b, "t_0"); err != nil || !slices.Equal(f.Columns, []api.Column{{ID: 2, Kind: api.Text}, {ID: 3, Kind: api.Int}}) {
		t.Errorf("the file is %+v, %v", f, err)
	}
}

// 11.1: Make's errors, at the row that is wrong; nothing is put then.
func TestInsertWrong(t *testing.T) {
	b := created(t, numbers(1, "a"), api.Column{Name: "b", Kind: api.Text, Must: true, Default: text("x")})
	right := row(num(1), text("x"))
	was := all(b)
	b.Faults([]int{bucket.Lost})
	for _, x := range []struct {
		rows [][]api.Value
		want api.Errno
		at   int
	}{
		{nil, api.ErrLimit, -1},
		{[][]api.Value{}, api.ErrLimit, -1},
		{slices.Repeat([][]api.Value{right}, api.MaxRows+1), api.ErrLimit, -1},
		{slices.Repeat([][]api.Value{nil}, api.MaxRows+1), api.ErrLimit, -1},
		{[][]api.Value{right, nil}, api.ErrArg, 1},
		{[][]api.Value{right[:1]}, api.ErrArg, 0},
		{[][]api.Value{append(right[:2:2], null)}, api.ErrArg, 0},
		{[][]api.Value{right, right, row(text("x"), text("x"))}, api.ErrArg, 2},
		{[][]api.Value{right, row(num(1), text("it's"))}, api.ErrArg, 1},
		{[][]api.Value{right, row(num(1), api.Value{Kind: api.Text, Num: 1})}, api.ErrArg, 1},
		{[][]api.Value{right, row(num(1), null), row(text("x"), null)}, api.ErrMissing, 1},
	} {
		p, err := plan.Insert(b, "t", x.rows)
		wantNone(t, fmt.Sprintf("Insert of %v", x.rows), p, err, x.want, x.at)
	}
	if now := all(b); now != was {
		t.Errorf("in the bucket lies %s, not %s", now, was)
	}
	wantErr(t, "Put", b.Put("k", "x"), api.ErrDevice, -1) // no fault was used up
	high := &bucket.Bucket{}
	lay(t, high, log.Key(1), by("t blind", "schema 1099511627778 1099511627777 a 1 may null"))
	p, err := plan.Insert(high, "t", counted(1, 1))
	wantNone(t, "a column of a number too high for a file", p, err, api.ErrArg, -1)
}

// 11.1: who is first stays: another thing, and just the same one, are ErrTwice.
func TestInsertTwice(t *testing.T) {
	b := created(t, numbers(1, "a"))
	lay(t, b, "data/u_0", "x")
	p, err := plan.Insert(b, "u", counted(1, 1))
	wantNone(t, "another thing is there", p, err, api.ErrTwice, -1)
	p, err = plan.Insert(b, "t", counted(1, 2))
	wantPlan(t, "the first one", b, p, err, 2, by("t blind", "add t_0 2"))
	was := all(b)
	b.Faults([]int{bucket.Done})
	for _, rows := range [][][]api.Value{counted(1, 2), counted(5, 3)} {
		again, err := plan.Insert(b, "t", rows)
		wantNone(t, "the same one again", again, err, api.ErrTwice, -1)
	}
	if now := all(b); now != was {
		t.Errorf("in the bucket lies %s, not %s", now, was)
	}
	b.Faults(nil)
	does(t, b, p, nil)
	wantRows(t, "the first one", b, counted(1, 2)...)
	again, err := plan.Insert(b, "t", counted(5, 3))
	wantNone(t, "once it is done", again, err, api.ErrTwice, -1)
}

// 11.1: a put that is lost is ErrDevice, and may be tried again; one that is done is done, whatever was told.
func TestInsertFaults(t *testing.T) {
	b := created(t, numbers(1, "a"))
	was := all(b)
	b.Faults([]int{bucket.Lost, bucket.Lost, bucket.Done})
	for range 2 {
		p, err := plan.Insert(b, "t", counted(1, 2))
		wantNone(t, "lost", p, err, api.ErrDevice, -1)
		if now := all(b); now != was {
			t.Errorf("in the bucket lies %s, not %s", now, was)
		}
	}
	p, err := plan.Insert(b, "t", counted(1, 2))
	wantPlan(t, "done", b, p, err, 2, by("t blind", "add t_0 2"))
	if s, err := b.Get("data/t_0"); s != written(t, p.Seen.Columns, counted(1, 2)) || err != nil {
		t.Errorf("at data/t_0 lies %q, %v", s, err)
	}
	does(t, b, p, err)
	wantRows(t, "done", b, counted(1, 2)...)
}

// P4: nothing that is handed in is written into or kept, and no two lists of a plan share memory.
func TestPlanKeepsOff(t *testing.T) {
	l := []api.Column{numbers(0, "a"), words(0, "b")}
	b := &bucket.Bucket{}
	p, err := plan.Create(b, "t", l)
	l[0] = words(9, "spoilt")
	wantPlan(t, "Create", b, p, err, 0, by("t blind", "schema 3 1 a 1 may null;2 b 2 may null"))
	does(t, b, p, err)
	for _, c := range []plan.Change{{Kind: plan.More, Column: words(0, "c")}, {Kind: plan.Less, Name: "b"}, {Kind: plan.Called, Name: "b", To: "c"}} {
		p, err := plan.Alter(b, "u", c)
		if err != nil {
			t.Fatal(err)
		}
		planned := fmt.Sprint(p.Commit)
		for i := range p.Seen.Columns {
			p.Seen.Columns[i] = words(9, "spoilt")
		}
		_ = append(p.Seen.Columns, words(9, "spoilt"))
		if now := fmt.Sprint(p.Commit); now != planned {
			t.Errorf("planned is %s, not %s, once what was seen is written into", now, planned)
		}
	}
	some := [][]api.Value{row(num(1), text("x")), row(num(2), null)}
	some[0] = append(some[0], num(8))[:2]
	inserts(t, b, "i", some)
	if fmt.Sprint(some[0][:3]) != fmt.Sprint(row(num(1), text("x"), num(8))) {
		t.Errorf("the row that was handed in is %v", some[0][:3])
	}
	some[0][0] = num(9)
	wantRows(t, "Insert", b, row(num(1), text("x")), row(num(2), null))
}
