package desk_test

import (
	"fmt"
	"maps"
	"slices"
	"strings"
	"testing"

	"millpond/api"
	"millpond/ask"
	"millpond/bucket"
	"millpond/commit"
	"millpond/desk"
	"millpond/log"
	"millpond/plan"
	"millpond/query"
	"millpond/scan"
	"millpond/value"
)

// side asks the layers what a session asks them by text.
type side struct {
	d       *die
	bucket  bucket.Bucket
	coming  [][]api.Value
	planned map[string]*plan.Plan
}

// told is the answer, unless there is an error.
func told(err error, l ...any) string {
	if err != nil {
		return fmt.Sprint("error ", int(api.Tell(err)))
	}
	return strings.TrimSuffix(fmt.Sprintln(l...), "\n")
}

// one is one of several.
func one[T any](d *die, l ...T) T { return l[d.n(len(l))] }

// drawnValue is a value, and the word that it is.
func (s *side) drawnValue() (api.Value, string) {
	switch s.d.n(3) {
	case 0:
		return api.Value{}, "null"
	case 1:
		n := int64(s.d.n(9) - 4)
		return api.Value{Kind: api.Int, Num: n}, fmt.Sprint(n)
	}
	text := one(s.d, "", "x", "x y", "  ")
	return api.Value{Kind: api.Text, Text: text}, "'" + strings.ReplaceAll(text, " ", "_") + "'"
}

// drawnColumn is a column, and the word that it is.
func (s *side) drawnColumn() (api.Column, string) {
	c := api.Column{Name: one(s.d, "a", "b", "c", "d", "e", "null"), Kind: api.Int, Must: s.d.n(4) == 0}
	word := c.Name + ":int"
	if s.d.n(2) == 0 {
		c.Kind, word = api.Text, c.Name+":text"
	}
	if c.Must {
		word += "!"
	}
	if s.d.n(3) == 0 {
		v, behind := s.drawnValue()
		c.Default, word = v, word+"="+behind
	}
	return c, word
}

func (s *side) drawnCond() string {
	return one(s.d, "", "a = 1", "a is null", "b <> 'x'", "b is not null and a < 2", "not (a >= 0 or b = 'x y')", "c = 1", "a = 'x'", "a =", "a = 99999999999999999999")
}

func (s *side) note(word, tx string, p *plan.Plan, err error) string {
	if err != nil {
		return told(err)
	}
	s.planned[tx] = p
	return told(nil, word, p.Rows)
}

// plans is a line that plans something, and its answer.
func (s *side) plans() (line, answer string) {
	tx := fmt.Sprint("w", s.d.n(99))
	if s.d.n(4) == 0 {
		tx = one(s.d, "t", "u", "v", "T")
	}
	switch s.d.n(7) {
	case 0:
		c, word := s.drawnColumn()
		other, more := s.drawnColumn()
		p, err := plan.Create(&s.bucket, tx, []api.Column{c, other})
		return "create " + tx + " " + word + " " + more, s.note("create", tx, p, err)
	case 1:
		c, word := s.drawnColumn()
		p, err := plan.Alter(&s.bucket, tx, plan.Change{Kind: plan.More, Column: c})
		return "alter " + tx + " more " + word, s.note("alter", tx, p, err)
	case 2:
		name, to := one(s.d, "a", "b", "c", "d"), one(s.d, "a", "b", "c", "d", "or")
		if s.d.n(2) == 0 {
			p, err := plan.Alter(&s.bucket, tx, plan.Change{Kind: plan.Less, Name: name})
			return "alter " + tx + " less " + name, s.note("alter", tx, p, err)
		}
		p, err := plan.Alter(&s.bucket, tx, plan.Change{Kind: plan.Called, Name: name, To: to})
		return "alter " + tx + " called " + name + " " + to, s.note("alter", tx, p, err)
	case 3:
		p, err := plan.Compact(&s.bucket, tx)
		return "compact " + tx, s.note("compact", tx, p, err)
	case 4:
		where := s.drawnCond()
		line = "delete " + tx + " " + where
		c, err := ask.Cond(where)
		if err != nil {
			return line, told(err)
		}
		p, err := plan.Delete(&s.bucket, tx, c)
		return line, s.note("delete", tx, p, err)
	case 5:
		return s.updates(tx)
	}
	return s.inserts(tx)
}

func (s *side) inserts(tx string) (line, answer string) {
	p, err := plan.Insert(&s.bucket, tx, s.coming)
	s.coming = nil
	return "insert " + tx, s.note("insert", tx, p, err)
}

func (s *side) updates(tx string) (line, answer string) {
	line = "update " + tx
	var sets []plan.Set
	for range 1 + s.d.n(2) {
		v, word := s.drawnValue()
		name := one(s.d, "a", "b", "c")
		sets, line = append(sets, plan.Set{Column: name, Value: v}), line+" "+name+"="+word
	}
	where := s.drawnCond()
	if where != "" {
		line += " where " + where
	}
	c, err := ask.Cond(where)
	if err != nil {
		return line, told(err)
	}
	p, err := plan.Update(&s.bucket, tx, c, sets)
	return line, s.note("update", tx, p, err)
}

// puts is a line of a row more: mostly of one that may be the table's, as it is.
func (s *side) puts() (line, answer string) {
	now, _ := commit.Load(&s.bucket, -1)
	places := now.Columns
	if s.d.n(20) == 0 || len(places) == 0 {
		places = make([]api.Column, 1+s.d.n(3))
	}
	line = "put"
	var row []api.Value
	for _, c := range places {
		v, word := s.drawnValue()
		for c.Kind != 0 && v.Kind != c.Kind && (v.Kind != api.Null || c.Must) {
			v, word = s.drawnValue()
		}
		row, line = append(row, v), line+" "+word
	}
	s.coming = append(s.coming, row)
	return line, "put"
}

// done is a line that does what is planned, of one that has something planned, if there is any.
func (s *side) done() (line, answer string) {
	tx := one(s.d, "t", "u", "v", "zz")
	if names := slices.Sorted(maps.Keys(s.planned)); len(names) > 0 && s.d.n(6) > 0 {
		tx = one(s.d, names...)
	}
	p := s.planned[tx]
	if p == nil {
		return "do " + tx, "error 7"
	}
	delete(s.planned, tx)
	version, err := plan.Do(&s.bucket, p)
	return "do " + tx, told(err, "do", version)
}

// printed are rows as words behind others.
func printed(rows [][]api.Value) string {
	var s strings.Builder
	for _, row := range rows {
		var values []string
		for _, v := range row {
			values = append(values, value.Print(v))
		}
		s.WriteString(" (" + strings.Join(values, ",") + ")")
	}
	return s.String()
}

// looks is a line that looks at the table, and its answer.
func (s *side) looks() (line, answer string) {
	now, wrong := commit.Load(&s.bucket, -1)
	if wrong != nil {
		panic(wrong)
	}
	switch s.d.n(6) {
	case 0:
		answer = "columns"
		for _, c := range now.Columns {
			answer += fmt.Sprintf(" %d:%s", c.ID, c.Name)
		}
		return "columns", answer
	case 1:
		answer = "files"
		for _, f := range now.Files {
			answer += fmt.Sprintf(" %s:%d-%d", f.Path, f.Rows, len(f.Mask))
		}
		return "files", answer
	case 2:
		n := s.d.n(8)
		text, err := s.bucket.Get(log.Key(n))
		return fmt.Sprint("log ", n), told(err, "log", strings.Join(strings.Split(strings.TrimSpace(text), "\n"), " | "))
	case 3:
		n := s.d.n(12) - 1
		went, err := plan.Vacuum(&s.bucket, n)
		return fmt.Sprint("vacuum ", n), told(err, "vacuum", went)
	case 4:
		return s.asks(now)
	}
	return s.finds(now)
}

func (s *side) finds(now api.Snapshot) (line, answer string) {
	where, word := s.drawnCond(), "rows"
	line = "rows " + where
	c, err := ask.Cond(where)
	if n := s.d.n(12); n < 6 {
		word, line = "at", fmt.Sprintf("at %d %s", n-1, where)
		var missing error
		if now, missing = commit.Load(&s.bucket, max(n-1, 0)); err == nil {
			err = missing
		}
	}
	if err != nil {
		return line, told(err)
	}
	found, looked, err := scan.All(&s.bucket, now, c)
	return line, told(err, word, fmt.Sprint(looked)+printed(values(found)))
}

func values(found []scan.Row) [][]api.Value {
	var rows [][]api.Value
	for _, r := range found {
		rows = append(rows, r.Values)
	}
	return rows
}

func (s *side) asks(now api.Snapshot) (line, answer string) {
	text := one(s.d, "select a", "select a, b", "select count(*), sum(a), max(b) where a > 0", "select a, count(*) by a order 2 desc, 1 limit 3", "select b, a", "select a where", "select c", "select a, min(b)", "select a limit 0")
	line = "ask " + text
	q, err := ask.Parse(text)
	if err != nil {
		return line, told(err)
	}
	found, _, err := scan.All(&s.bucket, now, q.Where)
	if err != nil {
		return line, told(err)
	}
	rows, err := query.Run(now.Columns, values(found), q)
	return line, told(err, "ask"+printed(rows))
}

// line is any line, and its answer.
func (s *side) line() (line, answer string) {
	switch s.d.n(12) {
	case 0, 1, 2:
		return s.puts()
	case 3, 4:
		if s.d.n(3) == 0 {
			return s.plans()
		}
		return s.inserts(fmt.Sprint("w", s.d.n(99)))
	case 5, 6:
		return s.done()
	case 8:
		var l []int
		line = "fault"
		for range s.d.n(3) {
			l = append(l, s.d.n(4)-1)
			line += fmt.Sprint(" ", l[len(l)-1])
		}
		s.bucket.Faults(l)
		return line, "fault"
	case 9:
		if s.d.n(3) == 0 {
			s.coming = nil
			return "cut", "cut"
		}
	}
	return s.looks()
}

// 13.1: a session answers what the layers tell, which are asked by their own faces.
func TestDrawn(t *testing.T) {
	d := die(1)
	for range 400 {
		s := &side{d: &d, planned: map[string]*plan.Plan{}}
		p, err := plan.Create(&s.bucket, "t", []api.Column{{Name: "a", Kind: api.Int}, {Name: "b", Kind: api.Text}})
		lines, want := []string{"create t a:int b:text"}, []string{s.note("create", "t", p, err)}
		for range 150 {
			line, answer := s.line()
			lines, want = append(lines, line), append(want, answer)
		}
		got := strings.Split(desk.Session(strings.Join(lines, "\n")), "\n")
		for i := range want {
			if got[i] != want[i] {
				t.Fatalf("line %d of\n%s\nis answered %q, not %q", i+1, strings.Join(lines[:i+1], "\n"), got[i], want[i])
			}
		}
	}
}
