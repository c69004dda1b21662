package desk

import (
	"maps"
	"slices"
	"strconv"
	"strings"

	"millpond/api"
	"millpond/ask"
	"millpond/commit"
	"millpond/log"
	"millpond/plan"
	"millpond/query"
	"millpond/scan"
	"millpond/value"
)

// last is the version of a table behind which there is none, as commit.Load is asked for it.
const last = -1

func (s *session) load(version int) api.Snapshot {
	return got(commit.Load(&s.bucket, version))
}

func (s *session) version(words []string) []string {
	need(len(words) == 0)
	return []string{"version", strconv.Itoa(s.load(last).Version)}
}

func (s *session) columns(words []string) []string {
	need(len(words) == 0)
	told := []string{"columns"}
	for _, c := range s.load(last).Columns {
		told = append(told, strconv.Itoa(c.ID)+":"+c.Name)
	}
	return told
}

func (s *session) files(words []string) []string {
	need(len(words) == 0)
	told := []string{"files"}
	for _, f := range s.load(last).Files {
		told = append(told, f.Path+":"+strconv.Itoa(f.Rows)+"-"+strconv.Itoa(len(f.Mask)))
	}
	return told
}

func (s *session) rows(words []string) []string {
	return s.found("rows", last, condOf(words))
}

func (s *session) at(words []string) []string {
	need(len(words) >= 1)
	version := from0(words[0])
	return s.found("at", version, condOf(words[1:]))
}

// from0 is a version that a word tells. Below the first one there is none, and none is told for the last one.
func from0(word string) int { return int(max(number(word), 0)) }

// found are the rows of a version of which a condition holds.
func (s *session) found(word string, version int, c *api.Cond) []string {
	rows, looked := s.all(s.load(version), c)
	return slices.Concat([]string{word, strconv.Itoa(looked)}, printed(rows))
}

// all are the rows of a table of which a condition holds, and how many groups were looked at.
func (s *session) all(seen api.Snapshot, c *api.Cond) ([][]api.Value, int) {
	found, looked, err := scan.All(&s.bucket, seen, c)
	must(err)
	var rows [][]api.Value
	for _, r := range found {
		rows = append(rows, r.Values)
	}
	return rows, looked
}

// printed are rows, a word each.
func printed(rows [][]api.Value) []string {
	var words []string
	for _, row := range rows {
		var values []string
		for _, v := range row {
			values = append(values, value.Print(v))
		}
		words = append(words, "("+strings.Join(values, ",")+")")
	}
	return words
}

func (s *session) ask(words []string) []string {
	q := got(ask.Parse(together(words)))
	seen := s.load(last)
	rows, _ := s.all(seen, q.Where)
	return slices.Concat([]string{"ask"}, printed(got(query.Run(seen.Columns, rows, q))))
}

func (s *session) log(words []string) []string {
	need(len(words) == 1)
	text := got(s.bucket.Get(log.Key(from0(words[0]))))
	return []string{"log", strings.ReplaceAll(strings.TrimSuffix(text, "\n"), "\n", " | ")}
}

func (s *session) fault(words []string) []string {
	var l []int
	for _, word := range words {
		l = append(l, int(number(word)))
	}
	s.bucket.Faults(l)
	return []string{"fault"}
}

func (s *session) vacuum(words []string) []string {
	need(len(words) == 1)
	return []string{"vacuum", strconv.Itoa(got(plan.Vacuum(&s.bucket, int(number(words[0])))))}
}

func (s *session) help(words []string) []string {
	need(len(words) == 0)
	return slices.Sorted(maps.Keys(s.does))
}
