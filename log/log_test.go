package log_test

import (
	"fmt"
	"math"
	"reflect"
	"slices"
	"strings"
	"testing"

	"millpond/api"
	"millpond/log"
	"millpond/plain"
)

// die: numbers that look drawn, the same each time.
type die uint64

func (d *die) n(most int) int {
	*d = *d*6364136223846793005 + 1442695040888963407
	return int(uint64(*d>>33) % uint64(most))
}

// wantErr says whether an error is just that Errno, at that place (-1: at none).
func wantErr(t *testing.T, what string, err error, want api.Errno, at int) {
	t.Helper()
	if e, place := plain.Place(err); e != want || place != at {
		t.Errorf("%s: error %d at %d, not %d at %d", what, e, place, want, at)
	}
}

func one(id int, name string) api.Column { return api.Column{ID: id, Name: name, Kind: api.Int} }

func columns(next int, l ...api.Column) api.Action {
	return api.Action{Kind: api.Schema, Columns: l, Next: next}
}

func add(path string, rows int) api.Action {
	return api.Action{Kind: api.Add, Path: path, Rows: rows}
}

func remove(path string) api.Action { return api.Action{Kind: api.Remove, Path: path} }

func mask(path string, places ...int) api.Action {
	return api.Action{Kind: api.Mask, Path: path, Mask: places}
}

func by(l ...api.Action) api.Commit { return api.Commit{Tx: "t", Actions: l} }

// applied is a table behind actions that may be done.
func applied(t *testing.T, s api.Snapshot, l ...api.Action) api.Snapshot {
	t.Helper()
	next, err := log.Apply(s, by(l...))
	if err != nil {
		t.Fatalf("Apply of %v to %v: %v", l, s, err)
	}
	return next
}

// wantNot says whether actions can't be done: that error, at the last one of them, and no table beside it.
func wantNot(t *testing.T, s api.Snapshot, want api.Errno, l ...api.Action) {
	t.Helper()
	next, err := log.Apply(s, by(l...))
	wantErr(t, fmt.Sprintf("Apply of %v", l), err, want, len(l)-1)
	if !reflect.DeepEqual(next, api.Snapshot{}) {
		t.Errorf("Apply of %v is %v beside an error", l, next)
	}
}

// wantTable says whether a table is just that; an empty list may be nil or not.
func wantTable(t *testing.T, got, want api.Snapshot) {
	t.Helper()
	if g, w := fmt.Sprintf("%+v", got), fmt.Sprintf("%+v", want); g != w {
		t.Errorf("the table is %s, not %s", g, w)
	}
}

// start is a table of one column and two files, f of 6 rows and g of 3.
func start(t *testing.T) api.Snapshot {
	t.Helper()
	return applied(t, api.Snapshot{}, columns(2, one(1, "a")), add("f", 6), add("g", 3))
}

// 7.1: at least six digits, noughts ahead.
func TestKey(t *testing.T) {
	for version, want := range map[int]string{
		0: "log/000000", 1: "log/000001", 7: "log/000007", 10: "log/000010", 200: "log/000200", 12345: "log/012345",
		99999: "log/099999", 100000: "log/100000", 123456: "log/123456", 999999: "log/999999",
		1000000: "log/1000000", 1234567: "log/1234567", math.MaxInt64: "log/9223372036854775807",
	} {
		if got := log.Key(version); got != want {
			t.Errorf("Key(%d) is %q, not %q", version, got, want)
		}
	}
}

// P1: a version below 0 has no key that is told, but the call ends.
func TestKeyBelow(t *testing.T) {
	for _, version := range []int{-1, -100000, -1000000, math.MinInt64} {
		log.Key(version)
	}
}

// 7.1: who did it is called by a Name, ahead of all else, at no place.
func TestApplyTx(t *testing.T) {
	s := start(t)
	for _, tx := range []string{"", "T", "1", "_a", "a b", "a\n", "a-", "é", strings.Repeat("a", 17)} {
		for _, l := range [][]api.Action{nil, {remove("g")}, {remove("none")}} {
			next, err := log.Apply(s, api.Commit{Tx: tx, Actions: l})
			wantErr(t, "Apply by "+tx, err, api.ErrArg, -1)
			wantTable(t, next, api.Snapshot{})
		}
	}
	for _, tx := range []string{"t", "a1_", "null", strings.Repeat("a", 16)} {
		if _, err := log.Apply(s, api.Commit{Tx: tx, Reads: true}); err != nil {
			t.Errorf("Apply by %q: %v", tx, err)
		}
	}
}

// 7.1: each commit is one version more, whether it does anything or not.
func TestApplyVersion(t *testing.T) {
	s := api.Snapshot{}
	for version := 1; version < 5; version++ {
		s = applied(t, s)
		wantTable(t, s, api.Snapshot{Version: version})
	}
	was := start(t)
	now := applied(t, was)
	was.Version++
	wantTable(t, now, was)
	now = applied(t, now, remove("f"), remove("g"))
	wantTable(t, now, api.Snapshot{Version: 3, Columns: []api.Column{one(1, "a")}, Next: 2})
}

// 7.1: columns, and the next number, are the table's; files stay as they are.
func TestApplySchema(t *testing.T) {
	s := applied(t, start(t), mask("f", 2))
	l := []api.Column{
		{ID: 3, Name: "b", Kind: api.Text, Must: true, Default: api.Value{Kind: api.Text, Text: "x"}},
		{ID: 1, Name: "a", Kind: api.Int, Default: api.Value{Kind: api.Int, Num: -5}},
	}
	files := []api.Entry{{Path: "f", Rows: 6, Mask: []int{2}}, {Path: "g", Rows: 3}}
	s = applied(t, s, columns(4, l...))
	wantTable(t, s, api.Snapshot{Version: 3, Columns: l, Next: 4, Files: files})
	s = applied(t, s, columns(4, one(2, "c")))
	wantTable(t, s, api.Snapshot{Version: 4, Columns: []api.Column{one(2, "c")}, Next: 4, Files: files})
	s = applied(t, s, columns(9, one(8, "c")), columns(9, one(7, "d")))
	wantTable(t, s, api.Snapshot{Version: 5, Columns: []api.Column{one(7, "d")}, Next: 9, Files: files})
}

// 7.1: columns that are not Right, or a next number below the table's.
func TestApplySchemaWrong(t *testing.T) {
	s := applied(t, api.Snapshot{}, columns(5, one(1, "a")))
	many := []api.Column{}
	for i := range 9 {
		many = append(many, one(i+1, "c"+fmt.Sprint(i)))
	}
	for _, a := range []api.Action{
		columns(4, one(1, "a")), columns(2, one(1, "a")), columns(0, one(1, "a")), columns(-1, one(1, "a")),
		columns(5), columns(5, one(5, "a")), columns(5, one(6, "a")), columns(5, one(0, "a")), columns(5, one(-1, "a")),
		columns(5, one(1, "A")), columns(5, one(1, "")), columns(5, one(1, "null")), columns(5, one(1, "a"), one(1, "b")),
		columns(5, one(1, "a"), one(2, "a")), columns(10, many...),
		columns(5, api.Column{ID: 1, Name: "a"}), columns(5, api.Column{ID: 1, Name: "a", Kind: 3}),
		columns(5, api.Column{ID: 1, Name: "a", Kind: api.Int, Default: api.Value{Kind: api.Text}}),
		columns(5, api.Column{ID: 1, Name: "a", Kind: api.Text, Default: api.Value{Kind: api.Text, Text: "'"}}),
		columns(5, api.Column{ID: 1, Name: "a", Kind: api.Text, Default: api.Value{Num: 1}}),
	} {
		wantNot(t, s, api.ErrArg, a)
		wantNot(t, s, api.ErrArg, add("f", 1), a)
	}
	wantNot(t, api.Snapshot{}, api.ErrArg, columns(5, one(1, "a")), columns(4, one(1, "a")))
	applied(t, s, columns(10, many[:8]...))
	applied(t, s, columns(math.MaxInt, one(math.MaxInt-1, "a")))
}

// 7.1: a file that is added is the last one, nothing masked, whatever else the action has.
func TestApplyAdd(t *testing.T) {
	s := applied(t, start(t), api.Action{Kind: api.Add, Path: "a", Rows: 60, Mask: []int{0}, Next: 7, Columns: []api.Column{one(1, "z")}})
	s = applied(t, s, remove("f"), add(strings.Repeat("x", 16), 1), add("f", 2))
	wantTable(t, s, api.Snapshot{Version: 3, Columns: []api.Column{one(1, "a")}, Next: 2, Files: []api.Entry{
		{Path: "g", Rows: 3}, {Path: "a", Rows: 60}, {Path: strings.Repeat("x", 16), Rows: 1}, {Path: "f", Rows: 2},
	}})
}

// 7.1: which files may not be added, and which error is first.
func TestApplyAddWrong(t *testing.T) {
	s := start(t)
	full := s
	for i := range 38 {
		full = applied(t, full, add(fmt.Sprint("x", i), 1))
	}
	for _, a := range []api.Action{
		add("", 1), add("F", 1), add("a b", 1), add("a/b", 1), add("1", 1), add(strings.Repeat("x", 17), 1), add("h", 0),
		add("h", -1), add("h", 61), add("h", math.MaxInt), add("f", 0), add("f", 61),
	} {
		wantNot(t, s, api.ErrArg, a)
		wantNot(t, full, api.ErrArg, a)
		wantNot(t, api.Snapshot{}, api.ErrArg, a)
	}
	for _, path := range []string{"f", "g"} {
		wantNot(t, s, api.ErrTwice, add(path, 1))
		wantNot(t, full, api.ErrTwice, add(path, 6))
	}
	wantNot(t, s, api.ErrTwice, add("h", 1), add("h", 2))
	wantNot(t, api.Snapshot{}, api.ErrState, add("f", 1))
	wantNot(t, applied(t, api.Snapshot{}), api.ErrState, add("f", 1))
	wantNot(t, full, api.ErrFull, add("h", 1))
	applied(t, full, remove("f"), add("h", 1))
	wantNot(t, full, api.ErrFull, remove("f"), add("h", 1), add("f", 1))
}

// 7.1: a file that is removed is gone, and its masks with it; the others stay in their order.
func TestApplyRemove(t *testing.T) {
	s := applied(t, start(t), add("h", 1), mask("h", 0), mask("f", 1, 3))
	c := []api.Column{one(1, "a")}
	f, g, h := api.Entry{Path: "f", Rows: 6, Mask: []int{1, 3}}, api.Entry{Path: "g", Rows: 3}, api.Entry{Path: "h", Rows: 1, Mask: []int{0}}
	wantTable(t, applied(t, s, remove("g")), api.Snapshot{Version: 3, Columns: c, Next: 2, Files: []api.Entry{f, h}})
	wantTable(t, applied(t, s, remove("h")), api.Snapshot{Version: 3, Columns: c, Next: 2, Files: []api.Entry{f, g}})
	wantTable(t, applied(t, s, remove("f")), api.Snapshot{Version: 3, Columns: c, Next: 2, Files: []api.Entry{g, h}})
	f.Mask = nil
	wantTable(t, applied(t, s, remove("f"), add("f", 6)), api.Snapshot{Version: 3, Columns: c, Next: 2, Files: []api.Entry{g, h, f}})
	for _, path := range []string{"", "F", "i", "ff", "f ", "\xff"} {
		wantNot(t, s, api.ErrMissing, remove(path))
	}
	wantNot(t, s, api.ErrMissing, remove("f"), remove("f"))
	wantNot(t, api.Snapshot{}, api.ErrMissing, remove("f"))
}

// 7.1: rows that are masked are, beside those that were, rising.
func TestApplyMask(t *testing.T) {
	s := applied(t, start(t), mask("f", 1, 4))
	s = applied(t, s, mask("f", 0, 2, 5), mask("g", 2))
	wantTable(t, s, api.Snapshot{Version: 3, Columns: []api.Column{one(1, "a")}, Next: 2, Files: []api.Entry{
		{Path: "f", Rows: 6, Mask: []int{0, 1, 2, 4, 5}}, {Path: "g", Rows: 3, Mask: []int{2}},
	}})
	s = applied(t, s, mask("f", 3), mask("g", 0, 1), add("h", 60))
	s = applied(t, s, mask("h", 59))
	wantTable(t, s, api.Snapshot{Version: 5, Columns: []api.Column{one(1, "a")}, Next: 2, Files: []api.Entry{
		{Path: "f", Rows: 6, Mask: []int{0, 1, 2, 3, 4, 5}}, {Path: "g", Rows: 3, Mask: []int{0, 1, 2}}, {Path: "h", Rows: 60, Mask: []int{59}},
	}})
}

// 7.1: which rows may not be masked, and which error is first.
func TestApplyMaskWrong(t *testing.T) {
	s := applied(t, start(t), mask("f", 1, 4))
	for _, l := range [][]int{
		nil, {}, {-1}, {math.MinInt}, {6}, {0, 6}, {math.MaxInt}, {2, 0}, {0, 0}, {0, 2, 2}, {0, 3, 2}, {-1, 0},
		{1, 6}, {4, 1}, {1, 1}, {-1, 1},
	} {
		wantNot(t, s, api.ErrArg, mask("f", l...))
		wantNot(t, s, api.ErrMissing, mask("h", l...))
	}
	for _, l := range [][]int{{1}, {4}, {0, 1}, {1, 2}, {0, 4, 5}, {1, 4}, {0, 1, 2, 3, 4, 5}} {
		wantNot(t, s, api.ErrState, mask("f", l...))
	}
	wantNot(t, s, api.ErrState, mask("f", 0), mask("f", 0, 2))
	wantNot(t, s, api.ErrArg, mask("g", 3))
	wantNot(t, s, api.ErrMissing, mask("", 0))
	wantNot(t, s, api.ErrMissing, remove("f"), mask("f", 0))
	wantNot(t, api.Snapshot{}, api.ErrMissing, mask("f", 0))
}

// 7.1: any other kind.
func TestApplyKind(t *testing.T) {
	s := start(t)
	for _, kind := range []int{0, -1, 5, 6, 255, 257, math.MaxInt, math.MinInt} {
		wantNot(t, s, api.ErrArg, api.Action{Kind: kind})
		wantNot(t, s, api.ErrArg, mask("f", 0), api.Action{Kind: kind, Path: "f", Rows: 1})
	}
}

// 7.1: of several actions that may not be done, the first one is told, and nothing is done of those ahead of it.
func TestApplyFirst(t *testing.T) {
	s := start(t)
	was := fmt.Sprintf("%+v", s)
	next, err := log.Apply(s, by(mask("f", 0), remove("g"), columns(3, one(2, "b")), add("f", 1), remove("none")))
	wantErr(t, "Apply", err, api.ErrTwice, 3)
	wantTable(t, next, api.Snapshot{})
	if now := fmt.Sprintf("%+v", s); now != was {
		t.Errorf("the table that was seen is %s, not %s", now, was)
	}
}

// P4: what is handed in stays as it is, and nothing of it is the answer's.
func TestApplyKeepsOff(t *testing.T) {
	s := applied(t, start(t), mask("f", 1, 4), add("h", 2))
	s.Files = append(s.Files, api.Entry{Path: "behind", Rows: 9})[:len(s.Files)]
	s.Files[0].Mask = append(s.Files[0].Mask, 77)[:2]
	c := by(mask("f", 0, 2), columns(3, one(1, "a"), one(2, "b")), mask("g", 1), add("i", 3), remove("h"))
	was := fmt.Sprintf("%+v %+v", s, c)
	spoil := func(x api.Snapshot) {
		for i := range x.Columns {
			x.Columns[i] = api.Column{}
		}
		for i := range x.Files {
			for j := range x.Files[i].Mask {
				x.Files[i].Mask[j] = 99
			}
			x.Files[i].Path = "spoilt"
		}
	}
	for _, l := range [][]api.Action{c.Actions, nil, {remove("f")}} {
		spoil(applied(t, s, l...))
		if now := fmt.Sprintf("%+v %+v", s, c); now != was {
			t.Fatalf("what was handed in is %s, not %s", now, was)
		}
	}
	if behind := s.Files[:4][3].Path; behind != "behind" || s.Files[0].Mask[:3][2] != 77 {
		t.Error("what stands behind a list's length is written into")
	}
	next := applied(t, s, c.Actions...)
	told := fmt.Sprintf("%+v", next)
	spoil(s)
	for _, a := range c.Actions {
		spoil(api.Snapshot{Columns: a.Columns, Files: []api.Entry{{Mask: a.Mask}}})
	}
	if now := fmt.Sprintf("%+v", next); now != told {
		t.Errorf("the answer is %s, not %s, once others write into what was handed in", now, told)
	}
}

// drawn is an action, right or not.
func drawn(d *die) api.Action {
	path := string(rune('e' + d.n(5)))
	switch d.n(6) {
	case 0, 1:
		return add(path, 1+d.n(5))
	case 2:
		return remove(path)
	case 3, 4:
		a := mask(path)
		for place := range 5 {
			if d.n(3) == 0 {
				a.Mask = append(a.Mask, place+d.n(12)/11)
			}
		}
		return a
	}
	next := 2 + d.n(4)
	return columns(next, one(1+d.n(next), "a"))
}

// model is a table by maps: of each file its rows, and which of them are masked; and the order of files.
type model struct {
	next, id int
	rows     map[string]int
	masked   map[string]map[int]bool
	order    []string
}

// do does what the chapter says, in other words than the program.
func (m *model) do(a api.Action) api.Errno {
	_, there := m.rows[a.Path]
	switch a.Kind {
	case api.Schema:
		if a.Columns[0].ID >= a.Next || a.Next < m.next {
			return api.ErrArg
		}
		m.next, m.id = a.Next, a.Columns[0].ID
	case api.Add:
		if there {
			return api.ErrTwice
		}
		if m.id == 0 {
			return api.ErrState
		}
		m.rows[a.Path], m.masked[a.Path] = a.Rows, map[int]bool{}
		m.order = append(m.order, a.Path)
	case api.Remove:
		if !there {
			return api.ErrMissing
		}
		delete(m.rows, a.Path)
		m.order = slices.DeleteFunc(m.order, func(path string) bool { return path == a.Path })
	case api.Mask:
		if !there {
			return api.ErrMissing
		}
		if len(a.Mask) == 0 || !slices.IsSorted(a.Mask) || len(slices.Compact(slices.Clone(a.Mask))) < len(a.Mask) || a.Mask[len(a.Mask)-1] >= m.rows[a.Path] {
			return api.ErrArg
		}
		for _, place := range a.Mask {
			if m.masked[a.Path][place] {
				return api.ErrState
			}
		}
		for _, place := range a.Mask {
			m.masked[a.Path][place] = true
		}
	}
	return api.OK
}

// table is what the model says a table is.
func (m *model) table(version int) api.Snapshot {
	s := api.Snapshot{Version: version, Next: m.next}
	if m.id > 0 {
		s.Columns = []api.Column{one(m.id, "a")}
	}
	for _, path := range m.order {
		f := api.Entry{Path: path, Rows: m.rows[path]}
		for place := range f.Rows {
			if m.masked[path][place] {
				f.Mask = append(f.Mask, place)
			}
		}
		s.Files = append(s.Files, f)
	}
	return s
}

// 7.1: whatever is drawn, a table is what the model says.
func TestApplyDrawn(t *testing.T) {
	d := die(7)
	for range 300 {
		m := model{rows: map[string]int{}, masked: map[string]map[int]bool{}}
		s := api.Snapshot{}
		for range 30 {
			a := drawn(&d)
			next, err := log.Apply(s, by(a))
			if e := m.do(a); e != api.OK {
				wantErr(t, fmt.Sprintf("Apply of %v to %v", a, s), err, e, 0)
				continue
			}
			s = next
			wantTable(t, s, m.table(s.Version))
		}
	}
}

// 7.3: when one fights another.
func TestFights(t *testing.T) {
	change := columns(2, one(1, "a"))
	reads := func(l ...api.Action) api.Commit { return api.Commit{Tx: "t", Reads: true, Actions: l} }
	for name, x := range map[string]struct {
		c, other api.Commit
		want     bool
	}{
		"nothing and nothing":                    {by(), by(), false},
		"nothing behind a file":                  {by(), by(add("f", 1)), false},
		"a file behind nothing":                  {by(add("f", 1)), by(), false},
		"two files":                              {by(add("f", 1)), by(add("g", 1)), false},
		"two files of one name":                  {by(add("f", 1)), by(add("f", 2)), true},
		"a file that both take away":             {by(remove("f")), by(remove("f")), true},
		"a file that is masked, and taken away":  {by(mask("f", 1)), by(remove("f")), true},
		"a file that is taken away, and masked":  {by(remove("f")), by(mask("f", 1)), true},
		"other rows of a file":                   {by(mask("f", 1)), by(mask("f", 2)), true},
		"rows of two files":                      {by(mask("f", 1)), by(mask("g", 1)), false},
		"a file that is there by then":           {by(remove("f")), by(add("f", 1)), true},
		"the last of several":                    {by(add("a", 1), add("b", 1), mask("f", 1)), by(remove("c"), remove("f")), true},
		"none of several":                        {by(add("a", 1), add("b", 1), mask("f", 1)), by(remove("c"), remove("g")), false},
		"names that begin alike":                 {by(add("f", 1)), by(add("ff", 1), add("F", 1)), false},
		"columns behind nothing":                 {by(change), by(), false},
		"nothing behind columns":                 {by(), by(change), true},
		"columns behind columns":                 {by(change), by(change), true},
		"columns behind a file":                  {by(change), by(add("f", 1)), true},
		"a file behind columns":                  {by(add("f", 1)), by(change), true},
		"columns among others, behind a file":    {by(add("a", 1), change), by(remove("f")), true},
		"a file behind columns among others":     {by(add("a", 1)), by(remove("f"), change), true},
		"who reads behind nothing":               {reads(), by(), false},
		"who reads, with a file, behind nothing": {reads(add("f", 1)), by(), false},
		"who reads behind a file":                {reads(), by(add("f", 1)), true},
		"who reads behind one that is gone":      {reads(add("a", 1)), by(remove("f")), true},
		"who reads behind rows that are masked":  {reads(add("a", 1)), by(mask("f", 1)), true},
		"who reads behind columns":               {reads(), by(change), true},
		"who reads columns behind nothing":       {reads(change), by(), false},
		"a file behind who reads":                {by(add("f", 1)), reads(add("g", 1)), false},
		"a file behind who reads that one":       {by(add("f", 1)), reads(add("f", 1)), true},
		"nothing behind who reads":               {by(), reads(add("g", 1)), false},
		"who reads behind who reads nothing":     {reads(add("g", 1)), reads(), false},
	} {
		if got := log.Fights(x.c, x.other); got != x.want {
			t.Errorf("%s: Fights is %v", name, got)
		}
	}
}

// 7.3: who did it, and what else an action has, does not matter; nor does it whether it may be done.
func TestFightsWrong(t *testing.T) {
	c := api.Commit{Actions: []api.Action{{Kind: 9, Path: "A b"}}}
	other := api.Commit{Tx: "A", Actions: []api.Action{{Kind: -1, Path: "f"}, {Kind: api.Mask, Path: "A b"}}}
	if !log.Fights(c, other) || !log.Fights(other, c) {
		t.Error("two of one path do not fight")
	}
	if c.Actions[0].Path = "A"; log.Fights(c, other) || log.Fights(other, c) {
		t.Error("two of different paths fight")
	}
	if c.Reads = true; !log.Fights(c, other) {
		t.Error("who reads does not fight an action that may not be")
	}
}

// P1: many actions are held against many others in a time that grows with them, not with all pairs.
func TestFightsMany(t *testing.T) {
	var c, other api.Commit
	for i := range 200_000 {
		c.Actions = append(c.Actions, remove(fmt.Sprint("f", i)))
		other.Actions = append(other.Actions, remove(fmt.Sprint("g", i)))
	}
	if log.Fights(c, other) {
		t.Error("two of different paths fight")
	}
	other.Actions = append(other.Actions, remove("f7"))
	if !log.Fights(c, other) {
		t.Error("two of one path do not fight")
	}
}
