package desk_test

import (
	"strings"
	"testing"

	"millpond/desk"
)

// numbers are words that are a number of 64 bits, and notNumbers some that are none.
var (
	numbers    = []string{"0", "1", "-1", "9", "10", "-10", "200", "2147483648", "-4294967297", "9223372036854775807", "-9223372036854775808"}
	notNumbers = []string{
		"00", "01", "-01", "-0", "+1", "+0", "--1", "-", "1-", "1.0", "1e3", "0x1", "0b1", "1_0", "_1", "1,000", "a", "a1", "1a", "'1", "1'",
		"9223372036854775808", "-9223372036854775809", "99999999999999999999", "\u0661", "\uff11", "1\t", "1\x00",
	}
)

// 13.1: N is decimal, perhaps with -, no nought ahead, of 64 bits.
func TestNumbers(t *testing.T) {
	for _, n := range numbers {
		behind(t, table,
			"fault "+n, "fault",
			"fault 0 "+n, "fault",
			"fault", "fault",
			"put "+n+" null", "put",
			"insert v", "insert 1",
			"do v", "do 3",
			"ask select a where a = "+n+" and b is null", "ask ("+n+")",
			"vacuum "+n, "vacuum 0",
		)
	}
	for _, s := range notNumbers {
		wrong(t, "3", "fault "+s, "fault 1 "+s, "fault "+s+" 1", "at "+s, "log "+s, "vacuum "+s, "put "+s, "update t a="+s, "create t a:int="+s)
	}
	wrong(t, "3", "at null", "log null", "vacuum null", "fault null", "at 'x'", "log '1'", "vacuum ''", "fault ''")
}

// 13.1: VALUE is null, N, or a text between two ', in which _ stands for a blank.
func TestValues(t *testing.T) {
	for word, want := range map[string]string{
		"null":                              "null",
		"''":                                "''",
		"'x'":                               "'x'",
		"'_'":                               "' '",
		"'a_b'":                             "'a b'",
		"'__a__b__'":                        "'  a  b  '",
		"'null'":                            "'null'",
		"'1'":                               "'1'",
		"'01'":                              "'01'",
		"'a=b!c:d'":                         "'a=b!c:d'",
		"'\"(,)|;~'":                        "'\"(,)|;~'",
		"'" + strings.Repeat("_", 40) + "'": "'" + strings.Repeat(" ", 40) + "'",
	} {
		behind(t, table,
			"put 5 "+word, "put",
			"insert v", "insert 1",
			"do v", "do 3",
			"rows a = 5", "rows 1 (5,"+want+")",
			"update w b="+word+" where a = 1", "update 1",
			"do w", "do 4",
			"rows a = 1", "rows 2 (1,"+want+")",
			"alter x more c:text="+word, "alter 0",
			"do x", "do 5",
			"ask select c limit 1", "ask ("+want+")",
		)
	}
	for _, s := range []string{"'", "x", "'x", "x'", "x'y'", "'x'y", "\"x\"", "Null", "NULL", "nul", "nulls", "\u2019x\u2019", "''x", "'a b'"} {
		wrong(t, "3", "put "+s, "put 1 "+s, "put "+s+" 1", "update t a="+s, "create t a:text="+s, "alter t more a:text="+s)
	}
}

// 13.1, 1.1: a text that may be none of a row is one between two ' all the same: that it may not stand there is told by who is to put it there.
func TestValuesThatMayNotBe(t *testing.T) {
	for _, word := range []string{"'" + strings.Repeat("x", 41) + "'", "'\t'", "'\x7f'", "'\u00e9'", "'\xff'", "'''", "'a'b'", "''''"} {
		behind(t, table,
			"put 5 "+word, "put",
			"insert v", "error 1",
			"update v b="+word+" where a = 1", "error 1",
			"update v b="+word+" where a = 7", "update 0",
			"alter v more c:text="+word, "error 1",
		)
		wrong(t, "1", "create t a:text="+word)
	}
}

// 13.1: COL is a name, :, int or text, perhaps ! (Must), perhaps = and a VALUE (Default).
func TestColumns(t *testing.T) {
	for word, want := range map[string]string{
		"a:int":                "2 1 a 1 may null",
		"a:text":               "2 1 a 2 may null",
		"a:int!":               "2 1 a 1 must null",
		"a:text!":              "2 1 a 2 must null",
		"a:int=5":              "2 1 a 1 may 5",
		"a:int=-5":             "2 1 a 1 may -5",
		"a:int=null":           "2 1 a 1 may null",
		"a:text='x_y'":         "2 1 a 2 may 'x y'",
		"a:text=''":            "2 1 a 2 may ''",
		"a:int!=5":             "2 1 a 1 must 5",
		"a:text!='q'":          "2 1 a 2 must 'q'",
		"a:text='='":           "2 1 a 2 may '='",
		"a:text='x=y!'":        "2 1 a 2 may 'x=y!'",
		"a:text!='b:int!=1'":   "2 1 a 2 must 'b:int!=1'",
		"a:text=':'":           "2 1 a 2 may ':'",
		"int:int":              "2 1 int 1 may null",
		"text:int":             "2 1 text 1 may null",
		"a_very_long_name:int": "2 1 a_very_long_name 1 may null",
	} {
		talk(t, "create t "+word, "create 0", "do t", "do 1", "log 1", "log commit t blind | schema "+want)
	}
	talk(t,
		"create t a:int b:text!='x' c:int=3", "create 0",
		"do t", "do 1",
		"log 1", "log commit t blind | schema 4 1 a 1 may null;2 b 2 must 'x';3 c 1 may 3",
		"alter u more d:text!='y_z'", "alter 0",
		"do u", "do 2",
		"log 2", "log commit u blind | schema 5 1 a 1 may null;2 b 2 must 'x';3 c 1 may 3;4 d 2 must 'y z'",
	)
}

// 13.1: what is no COL, and what is one, but may not be a column.
func TestNoColumns(t *testing.T) {
	for _, s := range []string{
		"a", "a:", ":", "a:x", "a:Int", "a:int:", "a:int:int", "a:text:int", "aint", "a=int", "a!:", "a:int!!", "a:!int", "a!", "a:int=", "a:int!=", "a:int=x", "a:int=01", "a:int==5", "a:int=5=5", "a:int=5!",
		"a:text=x", "a:text='x", "a:text='x'!", "a:1", "a:2", "=5", "!", "!=5", ":int", ":text!='x'", "a:integer", "a:in", "a:int?", "a=5:int", "a:int!x",
	} {
		wrong(t, "3", "create t "+s, "create t b:int "+s, "create t "+s+" b:int", "alter t more "+s)
	}
	for _, s := range []string{"A:int", "1:int", "_:int", "a!:int", "a!b:int", "a-b:int", "null:int", "and:text", "is:int", "not:int", "or:int", "a_very_long_name_:int", "c:int='x'", "c:text=5", "\u00e9:int", "a'b:int"} {
		wrong(t, "1", "create t "+s, "create t b:int "+s)
		behind(t, table, "alter v more "+s, "error 1")
	}
	wrong(t, "1", "create t a:int a:int", "create t a:int a:text", "create t a:int b:int c:int d:int e:int f:int g:int h:int i:int")
}

// 13.1: .. are words, with one blank between.
func TestTogether(t *testing.T) {
	for _, line := range []string{"rows b = 'x y'", "rows   b =  'x     y'  ", "rows b='x  y'", "  rows  b='x y'"} {
		behind(t, table, line, "rows 1 (2,'x y')")
	}
	behind(t, table,
		"rows b = 'x_y'", "rows 0", // _ is a letter there
		"at 2  b  =  'x  y'", "at 1 (2,'x y')",
		"ask select  a  where b =  'x   y'", "ask (2)",
		"delete v b = 'x   y'", "delete 1",
		"update v a=1 where b = 'x    y'", "update 1",
	)
}

// 13.1: T is any word: whether who plans may be called so is told by who plans.
func TestAnyWord(t *testing.T) {
	for _, tx := range []string{"T", "1", "_t", "t-u", "'t'", "t=1", "null!", "t_is_too_long", "\u00e9", "t\t", "*"} {
		wrong(t, "1", "create "+tx+" a:int", "insert "+tx, "delete "+tx, "update "+tx+" a=1", "compact "+tx, "alter "+tx+" more a:int", "alter "+tx+" less a", "alter "+tx+" called a b")
		wrong(t, "7", "do "+tx)
	}
	for _, tx := range []string{"where", "null", "more", "create", "t_is_no_more"} {
		behind(t, table, "update "+tx+" a=1 where a = 2", "update 1", "do "+tx, "do 3")
	}
	behind(t, table,
		"alter v less A", "error 7",
		"alter v called A b", "error 7",
		"alter v called a B", "error 1",
		"alter v called a b", "error 9",
		"update v A=1", "error 5",
		"update v where=1", "error 5",
		"update v where=1 where a = 1", "error 5",
		"update v a=1 a=2", "error 9",
		"alter v called a where", "alter 0",
		"do v", "do 3",
		"update w where=9", "update 3",
		"do w", "do 4",
		"rows", "rows 1 (9,'x') (9,'x y') (9,null)",
	)
	wrong(t, "3", "update t =1", "update t a=1 =2", "update t =", "update t a==1", "update t a=b=1", "update t a=", "update t 'a'", "update t a!1")
}

// P1: whatever it is given, each line is answered by a line, and none is left out.
func TestWhateverIsGiven(t *testing.T) {
	d := die(7)
	words := strings.Fields(`create alter insert delete update compact put cut do fault version columns files rows at ask log vacuum help more less called where
		t u v a b c a:int b:text c:int=5 d:text!='q' a=1 b='x' c=null = <> > ( ) not and or is null select count(*) sum(a) , by order limit desc
		0 1 2 3 -1 9223372036854775807 -9223372036854775808 99999999999999999999 '' 'x' 'a_b' ' _ ' : ! * x`)
	words = append(words, "\xff", "\x00", "\t", "\r", "\u00e9", "\u2028", strings.Repeat("x", 100), strings.Repeat("(", 30), strings.Repeat("not ", 30), strings.Repeat("a=1 and ", 40)+"a=1")
	for range 3000 {
		text := []string{"", strings.TrimSpace(table) + "\n"}[d.n(2)]
		for range d.n(30) {
			for range d.n(7) {
				text += words[d.n(len(words))] + " "
			}
			text += "\n"
		}
		got := desk.Session(text)
		if want := max(1, strings.Count(text, "\n")); strings.Count(got, "\n") != want || !strings.HasSuffix(got, "\n") {
			t.Fatalf("%q, %d lines, is answered %q", text, want, got)
		}
		if again := desk.Session(text); again != got {
			t.Fatalf("%q is answered %q, and then %q", text, got, again)
		}
	}
}
