package ask_test

import (
	"strings"
	"testing"

	"millpond/api"
	"millpond/ask"
)

// 9.2: which question a text is.
func TestParse(t *testing.T) {
	a, b := ask.Item{Column: "a"}, ask.Item{Column: "b"}
	one := leaf(api.Eq, "a", num(1))
	for s, want := range map[string]ask.Query{
		"select a":                             {Items: []ask.Item{a}},
		"  select   a  ":                       {Items: []ask.Item{a}},
		"select a, b":                          {Items: []ask.Item{a, b}},
		"select a,b,a":                         {Items: []ask.Item{a, b, a}},
		"select count(*)":                      {Items: []ask.Item{{"count", "*"}}},
		"select count ( * )":                   {Items: []ask.Item{{"count", "*"}}},
		"select count(a)":                      {Items: []ask.Item{{"count", "a"}}},
		"select max(a), min(b), sum(a), a":     {Items: []ask.Item{{"max", "a"}, {"min", "b"}, {"sum", "a"}, a}},
		"select count, max, min, sum":          {Items: []ask.Item{{"", "count"}, {"", "max"}, {"", "min"}, {"", "sum"}}},
		"select count(count), sum(sum)":        {Items: []ask.Item{{"count", "count"}, {"sum", "sum"}}},
		"select count where count = 1":         {Items: []ask.Item{{"", "count"}}, Where: leaf(api.Eq, "count", num(1))},
		"select a where a = 1":                 {Items: []ask.Item{a}, Where: one},
		"select a where not (a = 1 or b = '')": {Items: []ask.Item{a}, Where: not(or(one, leaf(api.Eq, "b", text(""))))},
		"select a by a":                        {Items: []ask.Item{a}, By: []string{"a"}},
		"select a by b, a,b":                   {Items: []ask.Item{a}, By: []string{"b", "a", "b"}},
		"select a by count":                    {Items: []ask.Item{a}, By: []string{"count"}},
		"select a order 1":                     {Items: []ask.Item{a}, Order: []ask.Order{{0, false}}},
		"select a order 1 desc":                {Items: []ask.Item{a}, Order: []ask.Order{{0, true}}},
		"select a, b order 2, 1 desc, 2":       {Items: []ask.Item{a, b}, Order: []ask.Order{{1, false}, {0, true}, {1, false}}},
		"select a, b order 02desc,1":           {Items: []ask.Item{a, b}, Order: []ask.Order{{1, true}, {0, false}}},
		"select a limit 1":                     {Items: []ask.Item{a}, Limit: 1},
		"select a limit 1000000":               {Items: []ask.Item{a}, Limit: 1_000_000},
		"select a where a = 1 limit 7":         {Items: []ask.Item{a}, Where: one, Limit: 7},
		"select a where a = 1 order 1 limit 7": {Items: []ask.Item{a}, Where: one, Order: []ask.Order{{0, false}}, Limit: 7},
		"select a by a limit 7":                {Items: []ask.Item{a}, By: []string{"a"}, Limit: 7},
		"select a by a order 1 desc":           {Items: []ask.Item{a}, By: []string{"a"}, Order: []ask.Order{{0, true}}},
		"select a, sum(b) where a = 1 by a, b order 2 desc, 1 limit 10": {
			Items: []ask.Item{a, {"sum", "b"}}, Where: one, By: []string{"a", "b"}, Order: []ask.Order{{1, true}, {0, false}}, Limit: 10,
		},
	} {
		wantQuery(t, s, want)
		wrongCond(t, s, api.ErrForm, strings.Index(s, "select"))
	}
}

// wrongQueryHere says whether a text with | in it, which is left out, is no question, for that reason, at the |.
func wrongQueryHere(t *testing.T, marked string, want api.Errno) {
	t.Helper()
	wrongQuery(t, strings.Replace(marked, "|", "", 1), want, strings.Index(marked, "|"))
}

// 9.1: the first token that may not stand there; the text's end, if one is missing.
func TestParseForm(t *testing.T) {
	for _, marked := range []string{
		"|", "  |", "|a", "|where a = 1", "|a = 1", "|selects a", "|*", "|(select a)", "select|", "select  |", "select |select a",
		"select |*", "select |1", "select |'a'", "select |, a", "select a,|", "select a, |, b", "select a |b", "select a|(b)", "select |(a)", "select a |desc", "select a |and b", "select a |1", "select a |= 1",
		"select count(|", "select count(a|", "select count(*|", "select count(|)", "select count(|1)",
		"select count(a|, b)", "select count(a |b)", "select count(*|, a)", "select count(count|(a))", "select max(|*)", "select min(|*)", "select sum(|*)", "select avg|(a)", "select counts|(a)", "select a, |(b)",
		"select count(a)|(b)", "select count(a) |b", "select count |*",
		"select a where|", "select a where |by a", "select a where |order 1", "select a where |limit 1", "select a where |where a = 1", "select a where a = 1 |where a = 1", "select a where a = 1 |, a", "select a where (a = 1 |by a", "select a where a = 1|)",
		"select a by|", "select a by |1", "select a by |*", "select a by a,|", "select a by a |b", "select a by a |desc", "select a by count|(a)", "select a by a |by a", "select a by a |where a = 1", "select a by |order 1", "select a by a, |limit 1",
		"select a order|", "select a order |a", "select a order |'1'", "select a order |desc", "select a order |, 1", "select a order 1,|", "select a order 1 |1", "select a order 1 desc |desc", "select a order 1 |asc", "select a order 1 |order 1", "select a order 1 |by a", "select a order 1 |where a = 1", "select a order |limit 1", "select a order 1, |limit 1", "select a order |(1)",
		"select a limit|", "select a limit |a", "select a limit |null", "select a limit |'1'", "select a limit |limit 1", "select a limit 1 |1", "select a limit 1|, 1", "select a limit 1 |limit 1", "select a limit 1 |order 1", "select a limit 1 |by a", "select a limit 1 |where a = 1", "select a limit 1 |desc",
	} {
		wrongQueryHere(t, marked, api.ErrForm)
	}
	for _, word := range []string{"and", "is", "not", "null", "or", "by", "desc", "limit", "order", "select", "where"} {
		for _, ahead := range []string{"select ", "select a, ", "select count(", "select max(", "select a by ", "select a by a, "} {
			wrongQuery(t, ahead+word, api.ErrForm, len(ahead))
		}
	}
}

// 9.1: names and numbers that are too great, or too small.
func TestParseLimit(t *testing.T) {
	name := strings.Repeat("n", api.MaxName)
	wantQuery(t, "select "+name+", max("+name+") by "+name, ask.Query{Items: []ask.Item{{"", name}, {"max", name}}, By: []string{name}})
	for _, marked := range []string{
		"select |" + name + "n", "select a, |" + name + "n", "select sum(|" + name + "n)", "select count(|" + name + "n)", "select a by |" + name + "n", "select a by a, |" + name + "n", "select a where |" + name + "n = 1",
		"select a order |0", "select a order |2", "select a order |-1", "select a, b order |3", "select a, b order 1, |3 desc", "select a, b order 2 desc, |0", "select a order |9223372036854775808", "select a order |-99999999999999999999", "select a order |4294967297", "select a, a order |18446744073709551617",
		"select a limit |0", "select a limit |-1", "select a limit |1000001", "select a limit |4294967297", "select a limit |9223372036854775807", "select a limit |9223372036854775808", "select a limit |18446744073709551617", "select a limit |-0",
	} {
		wrongQueryHere(t, marked, api.ErrLimit)
	}
	// From the left: the first token of which something is wrong.
	for _, marked := range []string{"select |" + name + "n(a)", "select |" + name + "n b", "select a order |2 limit", "select a order |2 2", "select a order |0 limit 0", "select a limit |0 0", "select sum(|" + name + "n"} {
		wrongQueryHere(t, marked, api.ErrLimit)
	}
	for _, marked := range []string{"|" + name + "n", "select a |" + name + "n", "select a |0", "select a order 1 |0", "select a order |" + name + "n", "select a limit |" + name + "n", "select a limit 1 |0", "select a |2 order 2"} {
		wrongQueryHere(t, marked, api.ErrForm)
	}
}

// 9.1: all places of a long question at which it may end, or go on otherwise.
func TestParsePieces(t *testing.T) {
	l := strings.Fields("select a , sum ( b ) where a = 1 by a , b order 2 desc , 1 limit 10")
	whole := map[int]bool{2: true, 4: true, 7: true, 11: true, 13: true, 15: true, 17: true, 18: true, 20: true, 22: true}
	for i := range len(l) + 1 {
		s := strings.Join(l[:i], " ")
		if _, err := ask.Parse(s); whole[i] {
			wantErr(t, s, err, api.OK, -1)
		} else {
			wantErr(t, s, err, api.ErrForm, len(s))
		}
		s += " ="
		if i != 9 { // only behind the name of a condition
			wrongQuery(t, s, api.ErrForm, len(s)-1)
		}
	}
}
