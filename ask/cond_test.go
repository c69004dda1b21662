package ask_test

import (
	"strings"
	"testing"

	"millpond/api"
	"millpond/ask"
)

// 9.2: which condition a text is.
func TestCond(t *testing.T) {
	a, b, c := leaf(api.Eq, "a", num(1)), leaf(api.Ne, "b", text("x")), leaf(api.Lt, "c", null)
	for s, want := range map[string]*api.Cond{
		"":              nil,
		"    ":          nil,
		"a = 1":         a,
		"b <> 'x'":      b,
		"c < null":      c,
		"a <= 2":        leaf(api.Le, "a", num(2)),
		"a > -3":        leaf(api.Gt, "a", num(-3)),
		"a >= ''":       leaf(api.Ge, "a", text("")),
		"a = null":      leaf(api.Eq, "a", null),
		"a is null":     leaf(api.IsNull, "a", null),
		"a is not null": leaf(api.NotNull, "a", null),
		"not a = 1":     not(a),
		"not not a = 1": not(not(a)),
		"(((a = 1)))":   a,
		"count = 1":     leaf(api.Eq, "count", num(1)),
		"max is null":   leaf(api.IsNull, "max", null),
		"min = 1":       leaf(api.Eq, "min", num(1)),
		"sum = 1":       leaf(api.Eq, "sum", num(1)),

		"a = 1 and b <> 'x'":                    and(a, b),
		"a = 1 or b <> 'x'":                     or(a, b),
		"a = 1 and b <> 'x' and c < null":       and(and(a, b), c),
		"a = 1 or b <> 'x' or c < null":         or(or(a, b), c),
		"a = 1 and (b <> 'x' and c < null)":     and(a, and(b, c)),
		"a = 1 or (b <> 'x' or c < null)":       or(a, or(b, c)),
		"a = 1 and b <> 'x' or c < null":        or(and(a, b), c),
		"a = 1 or b <> 'x' and c < null":        or(a, and(b, c)),
		"(a = 1 or b <> 'x') and c < null":      and(or(a, b), c),
		"a = 1 and (b <> 'x' or c < null)":      and(a, or(b, c)),
		"not a = 1 and b <> 'x'":                and(not(a), b),
		"not (a = 1 and b <> 'x')":              not(and(a, b)),
		"not a is null or not a is not null":    or(not(leaf(api.IsNull, "a", null)), not(leaf(api.NotNull, "a", null))),
		"a = 1 or not b <> 'x' and c < null":    or(a, and(not(b), c)),
		"not (not a = 1 or b <> 'x')and c<null": and(not(or(not(a), b)), c),
	} {
		wantCond(t, s, want)
		if want != nil {
			wantQuery(t, "select a where "+s, ask.Query{Items: []ask.Item{{"", "a"}}, Where: want})
		}
	}
}

// 9.1: the first token that may not stand there; the text's end, if one is missing.
func TestCondForm(t *testing.T) {
	for _, marked := range []string{
		"a|", "a |", "a is|", "a is not|", "a =|", "a = |", "a = 1 and|", "a = 1 or|", "a = 1 and   |", "not|", "(|", "( |", "(a = 1|", "((a = 1)|", "not (a = 1|", "(a = 1 or|",
		"|1", "|1 = a", "|null", "|null is null", "|= 1", "|)", "|,", "|*", "(|)", "not |)", "(|and)",
		"a = |b", "a = |not", "a = |(1)", "a = |*", "a = |=", "a is |a", "a is |1", "a is |= null", "a is not |not null", "a is not |1", "a |not null", "a |is_null", "a |not is null",
		"a = 1 |1", "a = 1 |b = 2", "a = 1 |null", "a = 1|)", "(a = 1)|)", "(a = 1)|(", "a = 1 |(b = 2)", "a = 1 |not b = 2", "a = 1 |is null", "a is null |null", "a = 1|, b = 2", "(a = 1 |b = 2", "(a |)",
		"a = 1 and |and b = 2", "a = 1 or |and b = 2", "a = 1 and |or b = 2", "|and a = 1", "|or", "a = 1 |= 1", "a = 1 |select", "a = 1 |desc",
		"count|(a) = 1", "count|(*) = 1",
	} {
		wrongHere(t, marked, api.ErrForm)
	}
	for _, word := range []string{"and", "is", "null", "or", "by", "desc", "limit", "order", "select", "where"} {
		wrongCond(t, word+" = 1", api.ErrForm, 0)
		wrongCond(t, word+" is null", api.ErrForm, 0)
		wrongCond(t, "not "+word+" = 1", api.ErrForm, 4)
		wrongCond(t, "a = 1 and "+word+" = 1", api.ErrForm, 10)
	}
	wrongCond(t, "not = 1", api.ErrForm, 4)
	wrongQuery(t, "select a where", api.ErrForm, 14)
	wrongQuery(t, "select a where   ", api.ErrForm, 17)
}

// mayStand tells, from token to token, what may stand next in a condition, by what was last and how many ( are open: another way than the program's.
type mayStand struct {
	state string
	open  int
}

// next is what comes of a token; false: it may not stand there.
func (m mayStand) next(token string) (mayStand, bool) {
	switch m.state + " " + token {
	case "one not":
		return m, true
	case "one (":
		return mayStand{"one", m.open + 1}, true
	case "one a":
		return mayStand{"name", m.open}, true
	case "name =":
		return mayStand{"value", m.open}, true
	case "name is":
		return mayStand{"is", m.open}, true
	case "is not":
		return mayStand{"is not", m.open}, true
	case "is null", "is not null", "value null", "value 1", "value 'x'":
		return mayStand{"done", m.open}, true
	case "done and", "done or":
		return mayStand{"one", m.open}, true
	case "done )":
		return mayStand{"done", m.open - 1}, m.open > 0
	}
	return m, false
}

// wrongAt is where the first token of a condition stands that may not stand there; -1: none.
func wrongAt(l []string) int {
	m, place := mayStand{state: "one"}, 0
	for _, token := range l {
		var ok bool
		if m, ok = m.next(token); !ok {
			return place
		}
		place += len(token) + 1
	}
	if m.state != "done" || m.open > 0 {
		return max(place-1, 0)
	}
	return -1
}

// 9.1: all rows of few tokens: which are conditions, and where the others are wrong.
func TestCondAllForms(t *testing.T) {
	tokens := []string{"a", "is", "not", "null", "and", "or", "=", "1", "'x'", "(", ")", "*"}
	var l []string
	var look func(more int)
	look = func(more int) {
		if s := strings.Join(l, " "); s != "" {
			want, at := api.OK, wrongAt(l)
			if at >= 0 {
				want = api.ErrForm
			}
			_, err := ask.Cond(s)
			wantErr(t, s, err, want, at)
		}
		if more == 0 || t.Failed() {
			return
		}
		for _, token := range tokens {
			l = append(l, token)
			look(more - 1)
			l = l[:len(l)-1]
		}
	}
	look(5)
	// Longer ones: a condition, of which one token is another.
	d := die(2)
	for range 20_000 {
		l = strings.Fields("( a = 1 or not ( a is not null ) and a = 'x' ) and not a is null or a = null")
		l[d.n(len(l))] = tokens[d.n(len(tokens))]
		l = l[:1+d.n(len(l))]
		want, at := api.OK, wrongAt(l)
		if at >= 0 {
			want = api.ErrForm
		}
		_, err := ask.Cond(strings.Join(l, " "))
		wantErr(t, strings.Join(l, " "), err, want, at)
	}
}

// 9.1: names, numbers and texts that are too great.
func TestCondLimit(t *testing.T) {
	name := strings.Repeat("n", api.MaxName)
	wantCond(t, name+" = 1", leaf(api.Eq, name, num(1)))
	letters := strings.Repeat("x", api.MaxLetters)
	wantCond(t, "a = '"+letters+"'", leaf(api.Eq, "a", text(letters)))
	for _, marked := range []string{
		"|" + name + "n = 1", "|" + name + "_ is null", "not (|" + name + "1 = 1)", "a = 1 and |" + name + "n = 1",
		"a = |9223372036854775808", "a = |-9223372036854775809", "a = |99999999999999999999", "not (a <> |-99999999999999999999)",
		"a = |'" + letters + "x'", "a = |'\x1f'", "a = |'\x7f'", "a = |'\n'", "a = |'\x00'", "a = |'\xc3\xa4'", "a = |'\xff'", "a = |'x\ty'", "a = 1 or b = |'\x80'",
	} {
		wrongHere(t, marked, api.ErrLimit)
	}
	// From the left: the first token of which something is wrong.
	for _, marked := range []string{"|" + name + "n", "|" + name + "n 1", "|" + name + "n = " + name, "a = |9223372036854775808 1", "a = |'\n')", "a = |9223372036854775808 and", "a = |'\n' and " + name + "n = 1"} {
		wrongHere(t, marked, api.ErrLimit)
	}
	for _, marked := range []string{"|= " + name + "n", "a |99999999999999999999", "a |'\n'", "a is |" + name + "n", "a = |" + name + "n", "a = 1 |" + name + "n", "|'\n' = 1", "|99999999999999999999"} {
		wrongHere(t, marked, api.ErrForm)
	}
}

// 9.1: in how many not and ( one may stand.
func TestCondDeep(t *testing.T) {
	want := leaf(api.Eq, "a", num(1))
	wantCond(t, strings.Repeat("(", api.MaxDepth)+"a = 1"+strings.Repeat(")", api.MaxDepth), want)
	for i := range api.MaxDepth {
		want = not(want)
		wantCond(t, strings.Repeat("not ", i+1)+"a = 1", want)
		mixed := strings.Repeat("(", api.MaxDepth-i-1) + strings.Repeat("not ", i+1) + "a = 1" + strings.Repeat(")", api.MaxDepth-i-1)
		wantCond(t, mixed, want)
	}
	in := "not (not (not (" // MaxDepth of them
	a, b := leaf(api.Eq, "a", num(1)), leaf(api.Eq, "b", num(1))
	wantCond(t, in+"a = 1 and b = 1)))", not(not(not(and(a, b)))))
	wantCond(t, "not(not(not(a = 1 or b = 1 and a = 1))) and not b = 1", and(not(not(not(or(a, and(b, a))))), not(b)))
	// Whatever stands there, also what might not; but none of it at the text's end.
	for _, there := range []string{"a = 1", "not a = 1", "(a = 1)", ")", "and", "= 1", "1", "'x'", "null", ", a", "*", "select", strings.Repeat("n", api.MaxName+1)} {
		wrongHere(t, in+"not |"+there, api.ErrLimit)
		wrongHere(t, in+"(|"+there, api.ErrLimit)
		wrongHere(t, in+"a = 1 and (|"+there, api.ErrLimit)
		wrongHere(t, in+"a = 1 or not |"+there, api.ErrLimit)
		wrongHere(t, "(((a = 1))) or "+in+" a = 1 or b = 1 and not  |"+there, api.ErrLimit)
		wrongHere(t, strings.Repeat("not ", api.MaxDepth+1)+"|"+there, api.ErrLimit)
		wrongHere(t, strings.Repeat("(", api.MaxDepth+1)+"|"+there, api.ErrLimit)
	}
	for _, marked := range []string{in + "|", in + "not|", in + "(|", in + "(  |", in + "a = 1 |b", in + "|)", "not a = 1 |a", strings.Repeat("(", api.MaxDepth) + "a = 1|"} {
		wrongHere(t, marked, api.ErrForm)
	}
}

// 9.1: the ( of a function is none of a condition's.
func TestDeepQuery(t *testing.T) {
	deep := strings.Repeat("(", api.MaxDepth) + "a = 1" + strings.Repeat(")", api.MaxDepth)
	wantQuery(t, "select count(*), sum(b) where "+deep, ask.Query{Items: []ask.Item{{"count", "*"}, {"sum", "b"}}, Where: leaf(api.Eq, "a", num(1))})
}
