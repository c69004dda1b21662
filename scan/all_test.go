package scan_test

import (
	"fmt"
	"reflect"
	"slices"
	"testing"

	"millpond/api"
	"millpond/bucket"
	"millpond/commit"
	"millpond/log"
	"millpond/scan"
	"millpond/value"
)

// table is a bucket to which commits come, one behind the other.
type table struct {
	*bucket.Bucket
	versions int
}

// does lays a commit of these actions, a line each, at the next version.
func (b *table) does(t *testing.T, lines ...string) {
	t.Helper()
	s := "commit t blind\n"
	for _, line := range lines {
		s += line + "\n"
	}
	b.versions++
	lay(t, b.Bucket, log.Key(b.versions), s)
}

// adds lays a file, and a commit that adds it.
func (b *table) adds(t *testing.T, path string, l []api.Column, rows [][]api.Value) {
	t.Helper()
	lay(t, b.Bucket, "data/"+path, written(t, l, rows))
	b.does(t, fmt.Sprint("add ", path, " ", len(rows)))
}

// at is the table at a version (below 0: the last one).
func (b *table) at(t *testing.T, version int) api.Snapshot {
	t.Helper()
	s, err := commit.Load(b.Bucket, version)
	if err != nil {
		t.Fatalf("Load of %d: %v", version, err)
	}
	return s
}

// oneColumn is a table of one column, a, of numbers, and its columns.
func oneColumn(t *testing.T) (*table, []api.Column) {
	b := &table{Bucket: &bucket.Bucket{}}
	b.does(t, "schema 2 1 a 1 may null")
	return b, []api.Column{numbers(1, "a")}
}

// is is a condition of a column and a value.
func is(code int, column string, v api.Value) *api.Cond {
	return &api.Cond{Code: code, Column: column, Value: v}
}

func both(code int, left, right *api.Cond) *api.Cond {
	return &api.Cond{Code: code, Left: left, Right: right}
}

func not(c *api.Cond) *api.Cond { return &api.Cond{Code: api.Not, Left: c} }

// wantAll says whether All tells just these rows, and that so many groups were looked at; an empty list may be nil or not.
func wantAll(t *testing.T, what string, b *table, s api.Snapshot, c *api.Cond, looked int, want ...scan.Row) {
	t.Helper()
	got, n, err := scan.All(b.Bucket, s, c)
	wantErr(t, what, err, api.OK)
	if fmt.Sprint(got) != fmt.Sprint(want) || n != looked {
		t.Errorf("%s: All is %v, %d, not %v, %d", what, got, n, want, looked)
	}
}

// wantNone says whether All tells just that error, at no place, and nothing beside it.
func wantNone(t *testing.T, what string, b *bucket.Bucket, s api.Snapshot, c *api.Cond, want api.Errno) {
	t.Helper()
	rows, looked, err := scan.All(b, s, c)
	wantErr(t, what, err, want)
	if len(rows) != 0 || looked != 0 {
		t.Errorf("%s: All is %v, %d beside an error", what, rows, looked)
	}
}

// 10.1: files as they were added (not by their names, nor as they lie in the bucket), rows as they stand in them, from 0 on in each.
func TestAllInOrder(t *testing.T) {
	b, l := oneColumn(t)
	b.adds(t, "z", l, [][]api.Value{row(num(5)), row(num(3)), row(num(4))})
	b.adds(t, "a", l, [][]api.Value{row(num(5)), row(num(5))})
	b.adds(t, "m", l, [][]api.Value{row(num(1))})
	wantAll(t, "nil", b, b.at(t, -1), nil, 3,
		scan.Row{"z", 0, row(num(5))}, scan.Row{"z", 1, row(num(3))}, scan.Row{"z", 2, row(num(4))},
		scan.Row{"a", 0, row(num(5))}, scan.Row{"a", 1, row(num(5))}, scan.Row{"m", 0, row(num(1))})
	wantAll(t, "a = 5", b, b.at(t, -1), is(api.Eq, "a", num(5)), 2, scan.Row{"z", 0, row(num(5))}, scan.Row{"a", 0, row(num(5))}, scan.Row{"a", 1, row(num(5))})
	wantAll(t, "a < 4", b, b.at(t, -1), is(api.Lt, "a", num(4)), 2, scan.Row{"z", 1, row(num(3))}, scan.Row{"m", 0, row(num(1))})
	wantAll(t, "a > 5", b, b.at(t, -1), is(api.Gt, "a", num(5)), 0)
}

// numbered are rows of file f of a column from 1 on, by those numbers.
func numbered(l ...int) []scan.Row {
	var rows []scan.Row
	for _, n := range l {
		rows = append(rows, scan.Row{Path: "f", Place: n - 1, Values: row(num(int64(n)))})
	}
	return rows
}

// 10.1: just the groups that May are LOOKED at; Place goes on behind one that is passed by.
func TestAllGroups(t *testing.T) {
	b, l := oneColumn(t)
	b.adds(t, "f", l, counted(1, 20)) // groups 1 to 6, 7 to 12, 13 to 18, 19 to 20
	s := b.at(t, -1)
	for _, x := range []struct {
		c      *api.Cond
		looked int
		want   []scan.Row
	}{
		{is(api.Ge, "a", num(19)), 1, numbered(19, 20)},
		{is(api.Ge, "a", num(18)), 2, numbered(18, 19, 20)},
		{is(api.Eq, "a", num(7)), 1, numbered(7)},
		{is(api.Eq, "a", num(12)), 1, numbered(12)},
		{is(api.Lt, "a", num(2)), 1, numbered(1)},
		{is(api.Lt, "a", num(1)), 0, nil},
		{is(api.Ne, "a", num(1)), 4, numbered(2, 3, 4, 5, 6, 7, 8, 9, 10, 11, 12, 13, 14, 15, 16, 17, 18, 19, 20)},
		{is(api.IsNull, "a", null), 0, nil},
		{is(api.Eq, "a", null), 0, nil},
		{not(is(api.Gt, "a", num(3))), 1, numbered(1, 2, 3)},
		{both(api.Or, is(api.Eq, "a", num(20)), is(api.Eq, "a", num(6))), 2, numbered(6, 20)},
		{both(api.And, is(api.Gt, "a", num(6)), is(api.Lt, "a", num(8))), 1, numbered(7)},
		{both(api.And, is(api.Eq, "a", num(2)), is(api.Eq, "a", num(3))), 1, nil}, // it may, but no row has both
		{both(api.And, is(api.Gt, "a", num(14)), is(api.Lt, "a", num(14))), 1, nil},
	} {
		wantAll(t, fmt.Sprintf("%+v", *x.c), b, s, x.c, x.looked, x.want...)
	}
	if rows, looked, err := scan.All(b.Bucket, s, nil); len(rows) != 20 || looked != 4 || err != nil {
		t.Errorf("All of nil is %v, %d, %v", rows, looked, err)
	}
}

// 10.1: rows that are masked are not told, though their groups are LOOKED at; the others stay where they stand.
func TestAllMasked(t *testing.T) {
	b, l := oneColumn(t)
	b.adds(t, "g", l, counted(1, 2))
	b.adds(t, "f", l, counted(1, 14))
	b.does(t, "mask f 0,7,13")
	b.does(t, "mask f 1,6,8,9,10,11", "remove g")
	rest := numbered(3, 4, 5, 6, 13)
	wantAll(t, "nil", b, b.at(t, -1), nil, 3, rest...)
	wantAll(t, "a > 6", b, b.at(t, -1), is(api.Gt, "a", num(6)), 2, rest[4])
	wantAll(t, "a = 8", b, b.at(t, -1), is(api.Eq, "a", num(8)), 1)
	wantAll(t, "a = 13", b, b.at(t, -1), is(api.Eq, "a", num(13)), 1, rest[4])
	b.does(t, "mask f 2,3,4,5,12")
	wantAll(t, "all are masked", b, b.at(t, -1), nil, 3)
}

// 10.1: each version is told as it was; files that it has not are not looked at, whatever lies there.
func TestAllVersions(t *testing.T) {
	b, l := oneColumn(t)
	b.adds(t, "f", l, counted(1, 2))
	b.does(t, "mask f 1")
	b.adds(t, "g", l, counted(7, 1))
	b.does(t, "remove f")
	lay(t, b.Bucket, "data/h", "spoilt")
	lay(t, b.Bucket, "data/i", written(t, l, counted(1, 9)))
	g := scan.Row{"g", 0, row(num(7))}
	wantAll(t, "0", b, b.at(t, 0), nil, 0)
	wantAll(t, "1", b, b.at(t, 1), nil, 0)
	wantAll(t, "2", b, b.at(t, 2), nil, 1, numbered(1, 2)...)
	wantAll(t, "3", b, b.at(t, 3), nil, 1, numbered(1)...)
	wantAll(t, "4", b, b.at(t, 4), nil, 2, numbered(1)[0], g)
	wantAll(t, "5", b, b.at(t, 5), nil, 1, g)
	last := b.at(t, 5)
	if err := b.Delete("data/f"); err != nil {
		t.Fatal(err)
	}
	wantAll(t, "5, without f", b, last, nil, 1, g)
	wantNone(t, "4, without f", b.Bucket, b.at(t, 4), nil, api.ErrMissing)
}

// 10.1: an older file is read as it is meant now: columns by their numbers, in the table's order, what came later by its Default; and so it is asked.
func TestAllOlder(t *testing.T) {
	b := &table{Bucket: &bucket.Bucket{}}
	b.does(t, "schema 3 1 a 1 may null;2 b 2 may null")
	b.adds(t, "f", []api.Column{numbers(1, "a"), words(2, "b")}, [][]api.Value{row(num(1), text("x")), row(num(2), null)})
	b.does(t, "schema 5 4 d 1 must 7;3 a 2 may null;2 c 2 may 'z'")
	b.adds(t, "g", []api.Column{numbers(4, "d"), words(3, "a"), words(2, "c")}, [][]api.Value{row(num(8), text("y"), null)})
	first, second, third := scan.Row{"f", 0, row(num(7), null, text("x"))}, scan.Row{"f", 1, row(num(7), null, null)}, scan.Row{"g", 0, row(num(8), text("y"), null)}
	s := b.at(t, -1)
	wantAll(t, "nil", b, s, nil, 2, first, second, third)
	wantAll(t, "d = 7", b, s, is(api.Eq, "d", num(7)), 1, first, second)
	wantAll(t, "d <> 7", b, s, is(api.Ne, "d", num(7)), 1, third)
	wantAll(t, "a is null", b, s, is(api.IsNull, "a", null), 1, first, second)
	wantAll(t, "a = 'y'", b, s, is(api.Eq, "a", text("y")), 1, third)
	wantAll(t, "c = 'x'", b, s, is(api.Eq, "c", text("x")), 1, first)
	wantAll(t, "c is null", b, s, is(api.IsNull, "c", null), 2, second, third)
	wantNone(t, "b", b.Bucket, s, is(api.Eq, "b", text("x")), api.ErrName)
	wantAll(t, "as it was", b, b.at(t, 2), is(api.Eq, "b", text("x")), 1, scan.Row{"f", 0, row(num(1), text("x"))})
}

// 10.1: only rows of which a condition is 1 are told, not those of which it is not known.
func TestAllUnknown(t *testing.T) {
	b, l := oneColumn(t)
	b.adds(t, "f", l, [][]api.Value{row(null), row(num(2)), row(num(3))})
	s := b.at(t, -1)
	nothing, two, three := scan.Row{"f", 0, row(null)}, scan.Row{"f", 1, row(num(2))}, scan.Row{"f", 2, row(num(3))}
	wantAll(t, "a = 2", b, s, is(api.Eq, "a", num(2)), 1, two)
	wantAll(t, "a <> 2", b, s, is(api.Ne, "a", num(2)), 1, three)
	wantAll(t, "not a = 2", b, s, not(is(api.Eq, "a", num(2))), 1, three)
	wantAll(t, "a = null", b, s, is(api.Eq, "a", null), 0)
	wantAll(t, "not a = null", b, s, not(is(api.Eq, "a", null)), 0)
	wantAll(t, "a = null or a = 3", b, s, both(api.Or, is(api.Eq, "a", null), is(api.Eq, "a", num(3))), 1, three)
	wantAll(t, "a is null", b, s, is(api.IsNull, "a", null), 1, nothing)
	wantAll(t, "a is not null", b, s, is(api.NotNull, "a", null), 1, two, three)
	wantAll(t, "nil", b, s, nil, 1, nothing, two, three)
}

// 10.1: Cond's errors come first, of the table's columns, also if there are no files, or none that may be opened; the first part's comes.
func TestAllCond(t *testing.T) {
	empty, _ := oneColumn(t)
	full, l := oneColumn(t)
	full.adds(t, "f", l, counted(1, 3))
	gone, _ := oneColumn(t)
	gone.does(t, "add f 3")
	round := &api.Cond{Code: api.Not}
	round.Left = round
	a, noName, wrongKind := is(api.Eq, "a", num(1)), is(api.Eq, "b", num(1)), is(api.Lt, "a", text("x"))
	for _, b := range []*table{empty, full, gone} {
		s := b.at(t, -1)
		wantNone(t, "no such column", b.Bucket, s, noName, api.ErrName)
		wantNone(t, "another kind", b.Bucket, s, wrongKind, api.ErrArg)
		wantNone(t, "is null of no column", b.Bucket, s, is(api.IsNull, "", null), api.ErrName)
		wantNone(t, "on the right", b.Bucket, s, both(api.Or, a, not(noName)), api.ErrName)
		wantNone(t, "both, from the left", b.Bucket, s, both(api.And, wrongKind, noName), api.ErrArg)
		wantNone(t, "both, the other way round", b.Bucket, s, both(api.And, noName, wrongKind), api.ErrName)
		wantNone(t, "round", b.Bucket, s, round, api.ErrArg)
		wantNone(t, "before there are columns", b.Bucket, api.Snapshot{}, a, api.ErrName)
	}
	wantNone(t, "no bucket", nil, empty.at(t, -1), noName, api.ErrName)
}

// 10.1: Open's errors, the first file's, also if the ones ahead have rows, and if no group of it would be LOOKED at.
func TestAllOpen(t *testing.T) {
	for _, form := range notFiles(t) {
		b, l := oneColumn(t)
		b.adds(t, "f", l, counted(1, 7))
		b.does(t, "add none 1")
		b.does(t, "add wrong 1")
		b.does(t, "remove none", "add none 1")
		lay(t, b.Bucket, "data/wrong", form)
		for _, c := range []*api.Cond{nil, is(api.Eq, "a", num(1)), is(api.Eq, "a", null)} {
			wantNone(t, "nothing is there", b.Bucket, b.at(t, 3), c, api.ErrMissing)
			wantNone(t, "nothing, then none", b.Bucket, b.at(t, 4), c, api.ErrMissing)
			wantNone(t, "none, then nothing", b.Bucket, b.at(t, 5), c, api.ErrForm)
		}
		wantAll(t, "ahead of both", b, b.at(t, 2), is(api.Eq, "a", num(1)), 1, numbered(1)...)
		wantNone(t, "no bucket", nil, b.at(t, 2), nil, api.ErrMissing)
		wantNone(t, "another bucket", &bucket.Bucket{}, b.at(t, 2), nil, api.ErrMissing)
	}
	wantAll(t, "no files", &table{}, api.Snapshot{}, nil, 0)
}

// P2, P4: All changes nothing, uses no fault up, keeps nothing, and what it tells is the caller's.
func TestAllKeepsOff(t *testing.T) {
	b, l := oneColumn(t)
	b.does(t, "schema 3 2 b 2 may 'x';1 a 1 may null")
	b.adds(t, "f", l, counted(1, 8))
	b.does(t, "mask f 1,4")
	b.Faults([]int{bucket.Lost})
	s, c := b.at(t, -1), both(api.And, is(api.Ge, "a", num(1)), not(is(api.IsNull, "b", null)))
	was, asked := all(b.Bucket), fmt.Sprint(s, *c.Left, *c.Right.Left)
	rows, _, _ := scan.All(b.Bucket, s, c)
	told := fmt.Sprint(rows)
	for _, r := range rows {
		_ = append(r.Values, text("spoilt"))
	}
	if now := fmt.Sprint(rows); now != told {
		t.Errorf("the rows are %s, not %s, once something is laid behind each", now, told)
	}
	for i, r := range rows {
		r.Values[0] = num(int64(i))
	}
	for i, r := range rows {
		if r.Values[0] != num(int64(i)) {
			t.Errorf("row %d is %v: it shares its memory", i, r)
		}
	}
	if again, _, err := scan.All(b.Bucket, s, c); fmt.Sprint(again) != told || err != nil {
		t.Errorf("All is %v, %v, not %s, once the first answer is written into", again, err, told)
	}
	if now := fmt.Sprint(s, *c.Left, *c.Right.Left); now != asked {
		t.Errorf("what was handed in is %s, not %s", now, asked)
	}
	if now := all(b.Bucket); now != was {
		t.Errorf("in the bucket lies %s, not %s", now, was)
	}
	wantErr(t, "Put", b.Put("k", "x"), api.ErrDevice)
}

// 10.1: as many files as a table has, as many rows as a file has.
func TestAllMost(t *testing.T) {
	b, l := oneColumn(t)
	for i := range api.MaxFiles {
		b.adds(t, fmt.Sprint("f", i), l, counted(1, api.MaxRows))
	}
	s := b.at(t, -1)
	rows, looked, err := scan.All(b.Bucket, s, nil)
	if len(rows) != api.MaxFiles*api.MaxRows || looked != api.MaxFiles*api.MaxRows/api.GroupRows || err != nil {
		t.Errorf("All is %d rows, %d, %v", len(rows), looked, err)
	}
	last := scan.Row{Path: "f39", Place: 59, Values: row(num(60))}
	if len(rows) > 0 && !reflect.DeepEqual(rows[len(rows)-1], last) {
		t.Errorf("the last row is %v, not %v", rows[len(rows)-1], last)
	}
	rows, looked, err = scan.All(b.Bucket, s, is(api.Eq, "a", num(60)))
	if len(rows) != api.MaxFiles || looked != api.MaxFiles || err != nil {
		t.Errorf("All of a = 60 is %d rows, %d, %v", len(rows), looked, err)
	}
}

// conditions are some of each code, and what is made of them, two by two.
func conditions() []*api.Cond {
	var l []*api.Cond
	for code := api.Eq; code <= api.Ge; code++ {
		for _, v := range []api.Value{null, num(2), num(5)} {
			l = append(l, is(code, "a", v))
		}
		l = append(l, is(code, "b", text("b")))
	}
	l = append(l, is(api.IsNull, "a", null), is(api.NotNull, "b", null), nil)
	single := slices.Clone(l)
	for _, left := range single[:len(single)-1] {
		l = append(l, not(left), not(not(left)))
		for _, right := range single[:len(single)-1] {
			l = append(l, both(api.And, left, right), both(api.Or, left, right), not(both(api.And, left, right)), not(both(api.Or, left, not(right))))
		}
	}
	return l
}

// What is looked for is what is found: All tells what is left if each row is asked by itself, whichever groups are passed by.
func TestAllFinds(t *testing.T) {
	b := &table{Bucket: &bucket.Bucket{}}
	b.does(t, "schema 3 1 a 1 may null;2 b 2 may null")
	l := []api.Column{numbers(1, "a"), words(2, "b")}
	ones, others := []api.Value{num(1), num(2), num(2), null, num(5), num(9)}, []api.Value{text("a"), null, text("b"), text("b"), text("c")}
	var every []scan.Row
	for i, n := range []int{1, 6, 7, 13, 20} {
		path := fmt.Sprint("f", i)
		var rows [][]api.Value
		for k := range n {
			r := row(ones[(k/3*i+k%(i+1))%len(ones)], others[(k/2+i)%len(others)])
			rows = append(rows, r)
			if k != 3 {
				every = append(every, scan.Row{Path: path, Place: k, Values: r})
			}
		}
		b.adds(t, path, l, rows)
		if n > 3 {
			b.does(t, "mask "+path+" 3")
		}
	}
	s := b.at(t, -1)
	passed := 0
	for i, c := range conditions() {
		var want []scan.Row
		for _, r := range every {
			if value.Holds(c, func(column string) api.Value { return r.Values[column[0]-'a'] }) == 1 {
				want = append(want, r)
			}
		}
		got, looked, err := scan.All(b.Bucket, s, c)
		if fmt.Sprint(got) != fmt.Sprint(want) || err != nil {
			t.Errorf("condition %d: All is %v, %v, not %v", i, got, err, want)
		}
		passed += 11 - looked
	}
	if passed == 0 {
		t.Error("no group was ever passed by")
	}
}
