package desk

import (
	"slices"
	"strconv"

	"millpond/api"
	"millpond/plan"
)

// note keeps what is planned until it is done, or something else is planned by the same one.
func (s *session) note(word, tx string, p *plan.Plan) []string {
	s.planned[tx] = p
	return []string{word, strconv.Itoa(p.Rows)}
}

func (s *session) create(words []string) []string {
	need(len(words) >= 2)
	tx, l := words[0], columnsOf(words[1:])
	return s.note("create", tx, got(plan.Create(&s.bucket, tx, l)))
}

func (s *session) alter(words []string) []string {
	need(len(words) >= 3)
	tx, c := words[0], change(words[1], words[2:])
	return s.note("alter", tx, got(plan.Alter(&s.bucket, tx, c)))
}

// change is the one of columns that a word, and those behind it, tell.
func change(word string, words []string) plan.Change {
	switch {
	case word == "more" && len(words) == 1:
		return plan.Change{Kind: plan.More, Column: columnOf(words[0])}
	case word == "less" && len(words) == 1:
		return plan.Change{Kind: plan.Less, Name: words[0]}
	}
	need(word == "called" && len(words) == 2)
	return plan.Change{Kind: plan.Called, Name: words[0], To: words[1]}
}

func (s *session) insert(words []string) []string {
	need(len(words) == 1)
	tx, rows := words[0], s.coming
	s.coming = nil // ahead of the plan: they are no more, also if it comes to nothing
	return s.note("insert", tx, got(plan.Insert(&s.bucket, tx, rows)))
}

func (s *session) delete(words []string) []string {
	need(len(words) >= 1)
	tx, c := words[0], condOf(words[1:])
	return s.note("delete", tx, got(plan.Delete(&s.bucket, tx, c)))
}

func (s *session) update(words []string) []string {
	need(len(words) >= 2)
	sets, where := parted(words[1:])
	tx, l, c := words[0], setsOf(sets), condOf(where)
	return s.note("update", tx, got(plan.Update(&s.bucket, tx, c, l)))
}

// parted are the words ahead of where, one at least, and those behind it, one at least, if it is there.
func parted(words []string) (ahead, behind []string) {
	i := slices.Index(words, "where")
	if i < 0 {
		return words, nil
	}
	need(i > 0 && i+1 < len(words))
	return words[:i], words[i+1:]
}

func (s *session) compact(words []string) []string {
	need(len(words) == 1)
	tx := words[0]
	return s.note("compact", tx, got(plan.Compact(&s.bucket, tx)))
}

func (s *session) do(words []string) []string {
	need(len(words) == 1)
	tx := words[0]
	p, ok := s.planned[tx]
	if !ok {
		must(api.ErrMissing)
	}
	delete(s.planned, tx) // ahead of what is done: who fights others is to plan anew
	return []string{"do", strconv.Itoa(got(plan.Do(&s.bucket, p)))}
}

func (s *session) put(words []string) []string {
	need(len(words) >= 1)
	s.coming = append(s.coming, valuesOf(words))
	return []string{"put"}
}

func (s *session) cut(words []string) []string {
	need(len(words) == 0)
	s.coming = nil
	return []string{"cut"}
}
