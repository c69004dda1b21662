package ask_test

import (
	"strings"
	"testing"

	"millpond/api"
	"millpond/ask"
)

// 9.1: tokens need no blanks between, and may have many.
func TestBlanks(t *testing.T) {
	one := leaf(api.Eq, "a", num(1))
	for _, s := range []string{"a=1", "a = 1", " a=1", "a=1 ", "   a   =   1   ", "(a=1)", "( a = 1 )", "((a=1))"} {
		wantCond(t, s, one)
	}
	wantCond(t, "a=1and b=2or c=3", or(and(one, leaf(api.Eq, "b", num(2))), leaf(api.Eq, "c", num(3))))
	wantCond(t, "a='x'and(b='y')", and(leaf(api.Eq, "a", text("x")), leaf(api.Eq, "b", text("y"))))
	wantCond(t, "not(a=1)", not(one))
	wantQuery(t, "select a,b by a,b order 1desc,2limit 3", ask.Query{
		Items: []ask.Item{{"", "a"}, {"", "b"}}, By: []string{"a", "b"}, Order: []ask.Order{{0, true}, {1, false}}, Limit: 3,
	})
}

// 9.1: a WORD goes on as long as it may.
func TestWords(t *testing.T) {
	for _, name := range []string{"a", "z", "a0", "z9", "a_", "a1_b2_", "nota", "not_", "not1", "nulls", "isnull", "andor", "selects", "abcdefghijklmnop"} {
		wantCond(t, name+"=1", leaf(api.Eq, name, num(1)))
		wantCond(t, name+" is null", leaf(api.IsNull, name, null))
		wantQuery(t, "select "+name, ask.Query{Items: []ask.Item{{"", name}}})
	}
	wrongHere(t, "|1a = 1", api.ErrForm)
	wrongHere(t, "a |b = 1", api.ErrForm)
	wrongHere(t, "a = 1|a", api.ErrForm)
	wrongHere(t, "a |isnot null", api.ErrForm)
	for _, marked := range []string{"|_a = 1", "|A = 1", "a|B = 1", "a|\xc3\xa4 = 1", "a|\xff = 1", "a|\x00 = 1", "a|`b = 1", "a|{ = 1"} {
		wrongHere(t, marked, api.ErrForm)
	}
}

// 9.1: a NUMBER is digits, and perhaps a - at once ahead of them.
func TestNumbers(t *testing.T) {
	for s, n := range map[string]int64{
		"0": 0, "1": 1, "10": 10, "-1": -1, "-10": -10, "-0": 0, "007": 7, "-007": -7,
		"9223372036854775807": 9223372036854775807, "-9223372036854775808": -9223372036854775808, "00000000000000000000000000001": 1,
	} {
		wantCond(t, "a="+s, leaf(api.Eq, "a", num(n)))
		wantCond(t, "a>"+s+" ", leaf(api.Gt, "a", num(n)))
	}
	for _, marked := range []string{"a = |- 1", "a = |-", "a = |--1", "a = 1|-", "a = |-a", "a = |-'1'", "a = |+1", "a = 1|.5", "a = |\xd9\xa1"} {
		wrongHere(t, marked, api.ErrForm)
	}
	for _, marked := range []string{"a = 1|-1", "a = -1|-1", "a = 1 |1", "a = 1|a", "a = 1|'x'"} { // two tokens
		wrongHere(t, marked, api.ErrForm)
	}
}

// 9.1: a TEXT is what stands between two ', whatever it is.
func TestTexts(t *testing.T) {
	for _, s := range []string{"", "x", "x y", " ", "  x  ", "and", "(", "a = 1", "null", "1", "-", "\"", "~", strings.Repeat("x", api.MaxLetters)} {
		wantCond(t, "a='"+s+"'", leaf(api.Eq, "a", text(s)))
		wantCond(t, "a = '"+s+"' or b = '"+s+"'", or(leaf(api.Eq, "a", text(s)), leaf(api.Eq, "b", text(s))))
	}
	for _, marked := range []string{"a = |'", "a = |'x", "a = 'x'|'", "a = 'x'|''", "a = 'x'|'y'", "a = 'it's|'", "|'a' = 1", "a |'=' 1", "a |'is' null", "a is |'null'", "|'(' a = 1 )", "a = 1 |'or' b = 1"} {
		wrongHere(t, marked, api.ErrForm)
	}
	wrongQuery(t, "'select' a", api.ErrForm, 0)
	wrongQuery(t, "select a 'limit' 1", api.ErrForm, 9)
	wrongQuery(t, "select a limit '1'", api.ErrForm, 15)
	wrongQuery(t, "select count('*')", api.ErrForm, 13)
}

// 9.1: a mark is the first one that stands there.
func TestMarks(t *testing.T) {
	for s, code := range map[string]int{"=": api.Eq, "<>": api.Ne, "<": api.Lt, "<=": api.Le, ">": api.Gt, ">=": api.Ge} {
		for v, want := range map[string]api.Value{"7": num(7), "-7": num(-7), "'x'": text("x"), "null": null} {
			wantCond(t, "a"+s+v, leaf(code, "a", want))
			wantCond(t, "a "+s+" "+v, leaf(code, "a", want))
		}
	}
	for _, marked := range []string{
		"a =|= 1", "a =|< 1", "a =|> 1", "a >|> 1", "a >|< 1", "a <|< 1", "a <=|> 1", "a <>|> 1", "a <>|= 1", "a >=|= 1", "a < |= 1", "a < |> 1", "a > |= 1",
		"a |* 1", "a |, 1", "a |( 1", "a |) 1", "a |1", "a |'1'", "a |null", "a |and", "a |or",
	} {
		wrongHere(t, marked, api.ErrForm)
	}
}

// 9.1: where no token stands, and that is told ahead of all that is wrong with tokens.
func TestNoToken(t *testing.T) {
	for b := range 256 {
		if c := string([]byte{byte(b)}); !strings.Contains(" abcdefghijklmnopqrstuvwxyz0123456789<>=(),*", c) {
			wrongCond(t, c, api.ErrForm, 0)
			wrongQuery(t, c, api.ErrForm, 0)
			wrongCond(t, "a = 1"+c, api.ErrForm, 5)
			wrongQuery(t, "select a "+c, api.ErrForm, 9)
		}
	}
	long := strings.Repeat("n", api.MaxName+1)
	for _, marked := range []string{") = = |; ;", "a b c |-", long + " = |!", "a = 99999999999999999999 and |_", strings.Repeat("(", 20) + "|\t", "a = '\xff' |\n", "and |'"} {
		wrongHere(t, marked, api.ErrForm)
	}
	wrongQuery(t, "a b |", api.ErrForm, 4)
	wrongQuery(t, "select a order 2 limit 0 ;", api.ErrForm, 25)
}

// 9.1: at most MaxTokens, whatever they are; what is no token is ErrForm also there.
func TestMaxTokens(t *testing.T) {
	full := "a is not null" + strings.Repeat(" or a = 1", 19) // 80 of them
	c, err := ask.Cond(full + "  ")
	if err != nil || ask.Print(c) != full {
		t.Errorf("MaxTokens: %q, %v", ask.Print(c), err)
	}
	for _, behind := range []string{"a", "=", "'x'", "-1", ")", "or a = 1", "a ;", "'' '", "a b c"} {
		wrongCond(t, full+"  "+behind, api.ErrLimit, len(full)+2)
	}
	for _, behind := range []string{";", "'", "-", "-a", "_", "\t", "\x00"} {
		wrongCond(t, full+" "+behind, api.ErrForm, len(full)+1)
		wrongCond(t, full+" a "+behind, api.ErrLimit, len(full)+1)
	}
	// Also ahead of what is wrong with tokens.
	wrongCond(t, strings.Repeat(") ", api.MaxTokens), api.ErrForm, 0)
	wrongCond(t, strings.Repeat(") ", api.MaxTokens+1), api.ErrLimit, 2*api.MaxTokens)
	items := "select a" + strings.Repeat(",a", 38) + " limit" // 79
	q, err := ask.Parse(items + " 1")
	if err != nil || len(q.Items) != 39 || q.Limit != 1 {
		t.Errorf("MaxTokens: %+v, %v", q, err)
	}
	wrongQuery(t, items+" 0", api.ErrLimit, len(items)+1)
	wrongQuery(t, items+" 1 1", api.ErrLimit, len(items)+3)
	wrongQuery(t, items+" 1 -", api.ErrForm, len(items)+3)
}
