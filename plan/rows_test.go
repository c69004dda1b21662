package plan_test

import (
	"fmt"
	"reflect"
	"slices"
	"strings"
	"testing"

	"millpond/api"
	"millpond/bucket"
	"millpond/commit"
	"millpond/log"
	"millpond/plan"
	"millpond/scan"
)

// set is what column a becomes.
func set(v api.Value) []plan.Set { return []plan.Set{{Column: "a", Value: v}} }

// three is a table of one column, a, at version 4: files z_0 (1 to 3), m_0 (4 to 10), a_0 (11 to 12).
func three(t *testing.T) *bucket.Bucket {
	t.Helper()
	b := created(t, numbers(1, "a"))
	inserts(t, b, "z", counted(1, 3))
	inserts(t, b, "m", counted(4, 7))
	inserts(t, b, "a", counted(11, 2))
	return b
}

// 11.3: rows that are FOUND are masked, file by file, as the table has them; but a file of which no row is left is removed, and one of which none is FOUND stays.
func TestDelete(t *testing.T) {
	for _, x := range []struct {
		c    string
		rows int
		want []string
		left [][]api.Value
	}{
		{"a = 2", 1, []string{"mask z_0 1"}, append(counted(1, 1), counted(3, 10)...)},
		{"a = 10", 1, []string{"mask m_0 6"}, append(counted(1, 9), counted(11, 2)...)},
		{"a < 3 or a > 9", 5, []string{"mask z_0 0,1", "mask m_0 6", "remove a_0"}, counted(3, 7)},
		{"a <= 3", 3, []string{"remove z_0"}, counted(4, 9)},
		{"a > 3 and a < 11", 7, []string{"remove m_0"}, append(counted(1, 3), counted(11, 2)...)},
		{"not (a = 5 or a = 7)", 10, []string{"remove z_0", "mask m_0 0,2,4,5,6", "remove a_0"}, [][]api.Value{row(num(5)), row(num(7))}},
		{"", 12, []string{"remove z_0", "remove m_0", "remove a_0"}, nil},
		{"a > 12", 0, nil, counted(1, 12)},
		{"a is null", 0, nil, counted(1, 12)},
		{"a = null", 0, nil, counted(1, 12)},
	} {
		b := three(t)
		p, err := plan.Delete(b, "t", cond(t, x.c))
		wantPlan(t, "Delete of "+x.c, b, p, err, x.rows, by("t reads", x.want...))
		if l := b.List("data/"); len(l) != 3 {
			t.Errorf("Delete of %s: in the bucket lie %q", x.c, l)
		}
		does(t, b, p, err)
		wantRows(t, "Delete of "+x.c, b, x.left...)
		if l := rows(t, b, 4); fmt.Sprint(l) != fmt.Sprint(counted(1, 12)) {
			t.Errorf("Delete of %s: as it was the rows are %v", x.c, l)
		}
	}
}

// 11.3: rows that are masked are not FOUND any more; a file is removed once the last ones go.
func TestDeleteMasked(t *testing.T) {
	b := three(t)
	deletes(t, b, "t", "a = 2 or a = 4 or a = 12")
	p, err := plan.Delete(b, "u", cond(t, "a <= 4"))
	wantPlan(t, "the rest of a file, and nothing of one", b, p, err, 2, by("u reads", "remove z_0"))
	p, err = plan.Delete(b, "u", cond(t, "a = 3 or a > 8"))
	wantPlan(t, "some more", b, p, err, 4, by("u reads", "mask z_0 2", "mask m_0 5,6", "remove a_0"))
	does(t, b, p, err)
	wantRows(t, "some more", b, append(counted(1, 1), counted(5, 4)...)...)
	if s := loaded(t, b, -1); !reflect.DeepEqual(s.Files, []api.Entry{{Path: "z_0", Rows: 3, Mask: []int{1, 2}}, {Path: "m_0", Rows: 7, Mask: []int{0, 5, 6}}}) {
		t.Errorf("the table is %+v", s)
	}
	p, err = plan.Delete(b, "v", cond(t, "a = 2 or a = 12"))
	wantPlan(t, "what is masked", b, p, err, 0, by("v reads"))
	p, err = plan.Delete(b, "v", nil)
	wantPlan(t, "all", b, p, err, 5, by("v reads", "remove z_0", "remove m_0"))
	does(t, b, p, err)
	p, err = plan.Delete(b, "w", nil)
	wantPlan(t, "none are left", b, p, err, 0, by("w reads"))
}

// 11.3: an older file is asked as it is meant now.
func TestDeleteOlder(t *testing.T) {
	b := created(t, numbers(0, "a"), words(0, "b"))
	inserts(t, b, "t", [][]api.Value{row(num(1), text("x")), row(num(2), null)})
	alters(t, b, plan.Change{Kind: plan.Less, Name: "a"})
	alters(t, b, plan.Change{Kind: plan.More, Column: api.Column{Name: "a", Kind: api.Int, Default: num(9)}})
	inserts(t, b, "u", [][]api.Value{row(text("x"), num(1)), row(text("y"), num(9))})
	p, err := plan.Delete(b, "v", cond(t, "a = 9"))
	wantPlan(t, "a = 9", b, p, err, 3, by("v reads", "remove t_0", "mask u_0 1"))
	p, err = plan.Delete(b, "v", cond(t, "b = 'x'"))
	wantPlan(t, "b = 'x'", b, p, err, 2, by("v reads", "mask t_0 0", "mask u_0 0"))
}

// 11.3: what lies there is asked which rows are left, whatever a commit told: nothing goes that is not FOUND.
func TestDeleteToldOtherwise(t *testing.T) {
	for _, told := range []string{"1", "2", "3", "4", "60"} {
		b := created(t, numbers(1, "a"))
		lay(t, b, "data/f", written(t, []api.Column{numbers(1, "a")}, counted(1, 3)))
		lay(t, b, log.Key(2), by("t blind", "add f "+told))
		p, err := plan.Delete(b, "u", cond(t, "a = 1"))
		wantPlan(t, "one of three", b, p, err, 1, by("u reads", "mask f 0"))
		p, err = plan.Delete(b, "u", cond(t, "a < 3"))
		wantPlan(t, "two of three", b, p, err, 2, by("u reads", "mask f 0,1"))
		p, err = plan.Delete(b, "u", nil)
		wantPlan(t, "all three", b, p, err, 3, by("u reads", "remove f"))
	}
}

// spoiltTables are a table whose file is not there, and one whose file is none.
func spoiltTables(t *testing.T) map[api.Errno]*bucket.Bucket {
	gone, wrong := three(t), three(t)
	for _, b := range []*bucket.Bucket{gone, wrong} {
		if err := b.Delete("data/m_0"); err != nil {
			t.Fatal(err)
		}
	}
	lay(t, wrong, "data/m_0", "x")
	return map[api.Errno]*bucket.Bucket{api.ErrMissing: gone, api.ErrForm: wrong}
}

// 11.3: All's errors, of all that look for rows; those of the condition come first, and nothing is put.
func TestFoundErrors(t *testing.T) {
	noName, wrongKind := cond(t, "a = 1 or b = 1"), cond(t, "not a < 'x'")
	for want, b := range spoiltTables(t) {
		was := all(b)
		for _, x := range planners()[3:] {
			p, err := x.plan(b, "t")
			wantNone(t, x.name, p, err, want, -1)
		}
		p, err := plan.Update(b, "t", nil, []plan.Set{{Column: "x"}})
		wantNone(t, "Update of no column", p, err, want, -1)
		for _, b := range []*bucket.Bucket{b, three(t), created(t, numbers(1, "a"))} {
			p, err := plan.Delete(b, "t", noName)
			wantNone(t, "Delete of no column", p, err, api.ErrName, -1)
			p, err = plan.Delete(b, "t", wrongKind)
			wantNone(t, "Delete of another kind", p, err, api.ErrArg, -1)
			p, err = plan.Update(b, "t", noName, append(set(num(1)), set(num(1))...))
			wantNone(t, "Update of no column", p, err, api.ErrName, -1)
			p, err = plan.Update(b, "t", wrongKind, []plan.Set{{Column: "x"}})
			wantNone(t, "Update of another kind", p, err, api.ErrArg, -1)
		}
		if now := all(b); now != was {
			t.Errorf("in the bucket lies %s, not %s", now, was)
		}
	}
}

// P1: conditions that go round, or lie too deep, or are none.
func TestCondWrong(t *testing.T) {
	round := &api.Cond{Code: api.And}
	round.Left, round.Right = round, round
	deep := cond(t, "a = 1")
	for range 1000 {
		deep = &api.Cond{Code: api.Not, Left: deep}
	}
	b := three(t)
	for _, c := range []*api.Cond{round, deep} {
		p, err := plan.Delete(b, "t", c)
		wantNone(t, "Delete", p, err, api.ErrArg, -1)
		p, err = plan.Update(b, "t", c, nil)
		wantNone(t, "Update", p, err, api.ErrArg, -1)
	}
	for _, c := range []*api.Cond{{}, {Code: 99}, {Code: api.Not}, {Code: api.And}, {Code: -1, Column: "a"}} {
		_, _ = plan.Delete(b, "t", c)
		_, _ = plan.Update(b, "t", c, nil)
	}
}

// 11.3: rows that are FOUND are put, with what columns become, and then they go; what else they have stays.
func TestUpdate(t *testing.T) {
	for _, x := range []struct {
		c    string
		sets []plan.Set
		put  [][]api.Value
		want []string
	}{
		{"a = 2", set(num(20)), [][]api.Value{row(num(20))}, []string{"add t_0 1", "mask z_0 1"}},
		{"a = 2", set(num(2)), [][]api.Value{row(num(2))}, []string{"add t_0 1", "mask z_0 1"}},
		{"a = 2", nil, [][]api.Value{row(num(2))}, []string{"add t_0 1", "mask z_0 1"}},
		{"a > 9", set(null), slices.Repeat([][]api.Value{row(null)}, 3), []string{"add t_0 3", "mask m_0 6", "remove a_0"}},
		{"a <> 5", nil, append(counted(1, 4), counted(6, 7)...), []string{"add t_0 11", "remove z_0", "mask m_0 0,2,3,4,5,6", "remove a_0"}},
		{"", set(num(0)), slices.Repeat([][]api.Value{row(num(0))}, 12), []string{"add t_0 12", "remove z_0", "remove m_0", "remove a_0"}},
	} {
		b := three(t)
		p, err := plan.Update(b, "t", cond(t, x.c), x.sets)
		wantPlan(t, "Update where "+x.c, b, p, err, len(x.put), by("t reads", x.want...))
		if s, err := b.Get("data/t_0"); s != written(t, p.Seen.Columns, x.put) || err != nil {
			t.Errorf("Update where %s: at data/t_0 lies %q, %v", x.c, s, err)
		}
		wantRows(t, "planned", b, counted(1, 12)...)
		does(t, b, p, err)
		if got := rows(t, b, -1); len(got) != 12 || fmt.Sprint(got[12-len(x.put):]) != fmt.Sprint(x.put) {
			t.Errorf("Update where %s: the rows are %v", x.c, got)
		}
	}
}

// 11.3: several columns, of older files; what came later is its Default, and is written so.
func TestUpdateColumns(t *testing.T) {
	b := created(t, numbers(0, "a"), words(0, "b"))
	inserts(t, b, "t", [][]api.Value{row(num(1), text("x")), row(num(2), null), row(num(3), text("y"))})
	alters(t, b, plan.Change{Kind: plan.More, Column: api.Column{Name: "c", Kind: api.Int, Must: true, Default: num(9)}})
	alters(t, b, plan.Change{Kind: plan.Called, Name: "a", To: "d"})
	p, err := plan.Update(b, "u", cond(t, "d > 1"), []plan.Set{{Column: "b", Value: text("z")}, {Column: "d", Value: null}})
	wantPlan(t, "Update", b, p, err, 2, by("u reads", "add u_0 2", "mask t_0 1,2"))
	does(t, b, p, err)
	wantRows(t, "Update", b, row(num(1), text("x"), num(9)), row(null, text("z"), num(9)), row(null, text("z"), num(9)))
	if f, err := scan.Open(b, "u_0"); err != nil || len(f.Columns) != 3 {
		t.Errorf("the file is %+v, %v", f, err)
	}
	p, err = plan.Update(b, "v", cond(t, "c = 9 and b = 'x'"), []plan.Set{{Column: "c", Value: num(8)}})
	wantPlan(t, "what came later", b, p, err, 1, by("v reads", "add v_0 1", "remove t_0"))
	p, err = plan.Update(b, "w", nil, []plan.Set{{Column: "c", Value: null}})
	wantNone(t, "what must be something", p, err, api.ErrMissing, 0)
}

// 11.3: if none are FOUND nothing is put, whatever they would become; but it hangs on all rows.
func TestUpdateNone(t *testing.T) {
	b := three(t)
	was := all(b)
	for _, sets := range [][]plan.Set{nil, set(num(1)), set(text("x")), set(api.Value{Kind: 99})} {
		p, err := plan.Update(b, "t", cond(t, "a > 12"), sets)
		wantPlan(t, "Update of none", b, p, err, 0, by("t reads"))
	}
	if now := all(b); now != was {
		t.Errorf("in the bucket lies %s, not %s", now, was)
	}
}

// 11.3: set by set a column that is not there, and one that was told, also if none are FOUND, and ahead of what may not be put.
func TestUpdateSets(t *testing.T) {
	b := created(t, numbers(0, "a"), words(0, "b"))
	inserts(t, b, "t", [][]api.Value{row(num(1), text("x")), row(num(2), null)})
	lay(t, b, "data/u_0", "x")
	was := all(b)
	one, wrong, other, none := plan.Set{"a", num(1)}, plan.Set{"a", text("x")}, plan.Set{"b", text("x")}, plan.Set{"c", num(1)}
	for _, x := range []struct {
		sets []plan.Set
		want api.Errno
	}{
		{[]plan.Set{none}, api.ErrName},
		{[]plan.Set{{}}, api.ErrName},
		{[]plan.Set{{Column: "A", Value: num(1)}}, api.ErrName},
		{[]plan.Set{one, other, none}, api.ErrName},
		{[]plan.Set{none, one, one}, api.ErrName},
		{[]plan.Set{one, one, none}, api.ErrTwice},
		{[]plan.Set{none, none}, api.ErrName},
		{[]plan.Set{one, other, one}, api.ErrTwice},
		{[]plan.Set{wrong, other, other}, api.ErrTwice},
		{[]plan.Set{wrong, none}, api.ErrName},
	} {
		for _, c := range []string{"", "a = 1", "a = 7"} {
			p, err := plan.Update(b, "u", cond(t, c), x.sets)
			wantNone(t, fmt.Sprintf("Update of %v where %s", x.sets, c), p, err, x.want, -1)
		}
	}
	if now := all(b); now != was {
		t.Errorf("in the bucket lies %s, not %s", now, was)
	}
}

// 11.3: what is wrong with a put: values that may not be, at the first row; too many rows; something is there; it is lost.
func TestUpdatePut(t *testing.T) {
	b := three(t)
	was := all(b)
	for _, v := range []api.Value{text("x"), {Kind: 99}, {Kind: api.Int, Text: "x"}, {Num: 1}} {
		p, err := plan.Update(b, "t", cond(t, "a > 4"), set(v))
		wantNone(t, fmt.Sprintf("Update to %v", v), p, err, api.ErrArg, 0)
	}
	b.Faults([]int{bucket.Lost, bucket.Done})
	p, err := plan.Update(b, "t", cond(t, "a = 4"), set(num(5)))
	wantNone(t, "lost", p, err, api.ErrDevice, -1)
	if now := all(b); now != was {
		t.Errorf("in the bucket lies %s, not %s", now, was)
	}
	p, err = plan.Update(b, "t", cond(t, "a = 4"), set(num(5)))
	wantPlan(t, "done", b, p, err, 1, by("t reads", "add t_0 1", "mask m_0 0"))
	again, err := plan.Update(b, "t", cond(t, "a = 4"), set(num(5)))
	wantNone(t, "twice", again, err, api.ErrTwice, -1)
	inserts(t, b, "more", counted(100, 48))
	p, err = plan.Update(b, "u", nil, set(num(5)))
	wantPlan(t, "as many as may be", b, p, err, 60, by("u reads", "add u_0 60", "remove z_0", "remove m_0", "remove a_0", "remove more_0"))
	inserts(t, b, "other", counted(200, 1))
	for _, v := range []api.Value{num(5), text("x")} {
		p, err = plan.Update(b, "v", nil, set(v))
		wantNone(t, "one too many", p, err, api.ErrLimit, -1)
	}
	p, err = plan.Update(b, "v", cond(t, "a <> 200"), set(num(5)))
	wantPlan(t, "as many as may be, of more", b, p, err, 60, by("v reads", "add v_0 60", "remove z_0", "remove m_0", "remove a_0", "remove more_0"))
}

// 11.3: nothing is done if nothing is masked, and there are no more files than the rows need.
func TestCompactNothing(t *testing.T) {
	b := created(t, numbers(1, "a"))
	p, err := plan.Compact(b, "t")
	wantPlan(t, "no files", b, p, err, 0, by("t reads"))
	inserts(t, b, "u", counted(1, 1))
	p, err = plan.Compact(b, "t")
	wantPlan(t, "one file", b, p, err, 1, by("t reads"))
	inserts(t, b, "v", counted(2, api.MaxRows))
	p, err = plan.Compact(b, "t")
	wantPlan(t, "two files of 61 rows", b, p, err, 61, by("t reads"))
	alters(t, b, plan.Change{Kind: plan.More, Column: words(0, "b")})
	p, err = plan.Compact(b, "t")
	wantPlan(t, "a column more", b, p, err, 61, by("t reads"))
	if l := b.List("data/"); len(l) != 2 {
		t.Errorf("in the bucket lie %q", l)
	}
}

// 11.3: all files go, in order, and their rows are put, MaxRows at once, numbered from 0 on.
func TestCompact(t *testing.T) {
	b := three(t)
	p, err := plan.Compact(b, "t")
	wantPlan(t, "three files", b, p, err, 12, by("t reads", "remove z_0", "remove m_0", "remove a_0", "add t_0 12"))
	wantRows(t, "planned", b, counted(1, 12)...)
	does(t, b, p, err)
	wantRows(t, "done", b, counted(1, 12)...)
	if s, err := b.Get("data/t_0"); s != written(t, p.Seen.Columns, counted(1, 12)) || err != nil {
		t.Errorf("at data/t_0 lies %q, %v", s, err)
	}
	deletes(t, b, "u", "a = 12")
	p, err = plan.Compact(b, "v")
	wantPlan(t, "one file, masked", b, p, err, 11, by("v reads", "remove t_0", "add v_0 11"))
	does(t, b, p, err)
	p, err = plan.Compact(b, "w")
	wantPlan(t, "once it is done", b, p, err, 11, by("w reads"))
	inserts(t, b, "x", counted(12, 49))
	p, err = plan.Compact(b, "w")
	wantPlan(t, "just a file full", b, p, err, 60, by("w reads", "remove v_0", "remove x_0", "add w_0 60"))
	inserts(t, b, "y", counted(61, 60))
	inserts(t, b, "z1", counted(121, 1))
	p, err = plan.Compact(b, "w1")
	wantPlan(t, "one more than two files full", b, p, err, 121, by("w1 reads", "remove v_0", "remove x_0", "remove y_0", "remove z1_0", "add w1_0 60", "add w1_1 60", "add w1_2 1"))
	does(t, b, p, err)
	wantRows(t, "done", b, counted(1, 121)...)
	deletes(t, b, "d", "a = 100")
	p, err = plan.Compact(b, "w2")
	wantPlan(t, "masked, and one less", b, p, err, 120, by("w2 reads", "remove w1_0", "remove w1_1", "remove w1_2", "add w2_0 60", "add w2_1 60"))
}

// 11.3: files of which all rows are masked go, and nothing is put.
func TestCompactAllMasked(t *testing.T) {
	b := created(t, numbers(1, "a"))
	inserts(t, b, "t", counted(1, 2))
	lay(t, b, log.Key(3), by("u blind", "mask t_0 0,1"))
	p, err := plan.Compact(b, "v")
	wantPlan(t, "Compact", b, p, err, 0, by("v reads", "remove t_0"))
	does(t, b, p, err)
	if s := loaded(t, b, -1); len(s.Files) != 0 {
		t.Errorf("the table is %+v", s)
	}
}

// 11.3: put together it is the same, also as many as may be, of older columns; what was is yet.
func TestCompactMost(t *testing.T) {
	b := created(t, numbers(0, "a"), words(0, "b"))
	for i := range api.MaxFiles {
		if i == 20 {
			alters(t, b, plan.Change{Kind: plan.Less, Name: "a"})
			alters(t, b, plan.Change{Kind: plan.More, Column: api.Column{Name: "a", Kind: api.Int, Default: num(-7)}})
		}
		var l [][]api.Value
		for k := range api.MaxRows {
			l = append(l, row(num(int64(k)), text(fmt.Sprint(i))))
			if i >= 20 {
				slices.Reverse(l[k])
			}
		}
		inserts(t, b, fmt.Sprint("t", i), l)
	}
	p, err := plan.Compact(b, "u")
	wantPlan(t, "as few files as can be", b, p, err, api.MaxFiles*api.MaxRows, by("u reads"))
	deletes(t, b, "d", "a = 3 or a = 59")
	was := rows(t, b, -1)
	p, err = plan.Compact(b, "u")
	does(t, b, p, err)
	if now := rows(t, b, -1); len(now) != 40*60-40 || fmt.Sprint(now) != fmt.Sprint(was) {
		t.Errorf("there are %d rows, and were %d", len(now), len(was))
	}
	if s := loaded(t, b, -1); len(s.Files) != 40 || s.Files[39].Rows != 20 || s.Files[39].Path != "u_39" {
		t.Errorf("there are %d files, %+v", len(s.Files), s.Files)
	}
	if l := rows(t, b, p.Seen.Version); fmt.Sprint(l) != fmt.Sprint(was) {
		t.Error("as it was the rows are others")
	}
	for _, r := range rows(t, b, -1)[:20] {
		if r[1] != num(-7) {
			t.Errorf("an older row is %v", r)
		}
	}
}

// 11.3: a put that goes wrong ends it: what was put ahead stays there, but nothing is planned; each of them may be told to have gone wrong and be done.
func TestCompactPut(t *testing.T) {
	two := func() *bucket.Bucket {
		b := created(t, numbers(1, "a"))
		inserts(t, b, "a", counted(1, 40))
		inserts(t, b, "b", counted(41, 30))
		inserts(t, b, "c", counted(71, 1))
		return b
	}
	b := two()
	b.Faults([]int{bucket.Fine, bucket.Lost})
	p, err := plan.Compact(b, "t")
	wantNone(t, "the second one is lost", p, err, api.ErrDevice, -1)
	if l := b.List("data/"); !slices.Equal(l, []string{"data/a_0", "data/b_0", "data/c_0", "data/t_0"}) {
		t.Errorf("in the bucket lie %q", l)
	}
	p, err = plan.Compact(b, "t")
	wantNone(t, "the first one is there", p, err, api.ErrTwice, -1)
	b.Faults([]int{bucket.Done, bucket.Done})
	p, err = plan.Compact(b, "u")
	wantPlan(t, "both are done", b, p, err, 71, by("u reads", "remove a_0", "remove b_0", "remove c_0", "add u_0 60", "add u_1 11"))
	does(t, b, p, err)
	wantRows(t, "both are done", b, counted(1, 71)...)
	b = two()
	lay(t, b, "data/t_1", "x")
	p, err = plan.Compact(b, "t")
	wantNone(t, "the second one is there", p, err, api.ErrTwice, -1)
	high := &bucket.Bucket{}
	lay(t, high, log.Key(1), by("t blind", "schema 2 1 a 1 may null", "add f 1", "add g 1"))
	lay(t, high, log.Key(2), by("t blind", "schema 1099511627778 1099511627777 a 1 may null"))
	lay(t, high, "data/f", written(t, []api.Column{numbers(1, "a")}, counted(1, 1)))
	lay(t, high, "data/g", written(t, []api.Column{numbers(1, "a")}, counted(1, 1)))
	p, err = plan.Compact(high, "t")
	wantNone(t, "a column of a number too high for a file", p, err, api.ErrArg, -1)
}

// P4: what is handed in stays as it is, and no two lists of a plan share memory with each other or with what lies there.
func TestRowsKeepOff(t *testing.T) {
	b := three(t)
	deletes(t, b, "d", "a = 5")
	sets := append(set(num(1)), plan.Set{Column: "x"})[:1]
	c := cond(t, "a > 1 and not a = 12")
	asked := fmt.Sprint(*c, *c.Left, *c.Right, sets[:2])
	was := rows(t, b, -1)
	for _, x := range []planner{
		{"Delete", func(b *bucket.Bucket, tx string) (*plan.Plan, error) { return plan.Delete(b, tx, c) }},
		{"Update", func(b *bucket.Bucket, tx string) (*plan.Plan, error) { return plan.Update(b, tx, c, sets) }},
		{"Compact", plan.Compact},
	} {
		p, err := x.plan(b, strings.ToLower(x.name))
		if err != nil {
			t.Fatal(err)
		}
		planned := fmt.Sprint(p.Commit)
		for i, f := range p.Seen.Files {
			for k := range f.Mask {
				f.Mask[k] = 99
			}
			_ = append(f.Mask, 98)
			p.Seen.Files[i] = api.Entry{Path: "spoilt"}
		}
		if now := fmt.Sprint(p.Commit); now != planned {
			t.Errorf("%s: planned is %s, not %s, once what was seen is written into", x.name, now, planned)
		}
		for _, a := range p.Commit.Actions {
			_ = append(a.Mask, 97)
		}
		if now := fmt.Sprint(p.Commit); now != planned {
			t.Errorf("%s: planned is %s, not %s, once something is laid behind the masks", x.name, now, planned)
		}
	}
	if now := fmt.Sprint(*c, *c.Left, *c.Right, sets[:2]); now != asked {
		t.Errorf("what was handed in is %s, not %s", now, asked)
	}
	wantRows(t, "nothing is done", b, was...)
	if _, err := commit.Load(b, -1); err != nil {
		t.Error(err)
	}
}
