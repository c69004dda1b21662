package desk_test

import (
	"strings"
	"testing"

	"millpond/desk"
)

// talk says whether a session answers just so: lines and their answers, one behind the other.
func talk(t *testing.T, both ...string) {
	t.Helper()
	var lines, want []string
	for i := 0; i < len(both); i += 2 {
		lines, want = append(lines, both[i]), append(want, both[i+1])
	}
	got := strings.Split(desk.Session(strings.Join(lines, "\n")), "\n")
	if len(got) != len(want)+1 || got[len(want)] != "" {
		t.Fatalf("%d lines are answered by %q", len(lines), got)
	}
	for i := range want {
		if got[i] != want[i] {
			t.Errorf("line %d, %q, is answered %q, not %q", i+1, lines[i], got[i], want[i])
		}
	}
}

// behind says the same of lines that come behind others, which are all to be answered without an error.
func behind(t *testing.T, ahead string, both ...string) {
	t.Helper()
	ahead = strings.TrimSpace(ahead)
	first := strings.Split(strings.TrimSuffix(desk.Session(ahead), "\n"), "\n")
	var all []string
	for i, line := range strings.Split(ahead, "\n") {
		if strings.HasPrefix(first[i], "error") {
			t.Fatalf("line %q ahead is answered %q", line, first[i])
		}
		all = append(all, line, first[i])
	}
	talk(t, append(all, both...)...)
}

// wrong says whether each line, on its own, is answered by an error of that number.
func wrong(t *testing.T, number string, lines ...string) {
	t.Helper()
	for _, line := range lines {
		if got := desk.Session(line); got != "error "+number+"\n" {
			t.Errorf("%q is answered %q, not error %s", line, got, number)
		}
	}
}

// table are lines that make one of two columns, and of three rows in one file.
const table = `
create t a:int b:text
do t
put 1 'x'
put 2 'x_y'
put null null
insert u
do u
`

// 13.1: error 4 and a line feed, if the text has more than MaxText bytes.
func TestTooLong(t *testing.T) {
	for text, want := range map[string]string{
		strings.Repeat("x", 20_000):           "error 3\n",
		strings.Repeat("x", 20_001):           "error 4\n",
		strings.Repeat(" ", 20_000):           "ok\n",
		strings.Repeat(" ", 20_001):           "error 4\n",
		strings.Repeat("\n", 20_000):          strings.Repeat("ok\n", 20_000),
		strings.Repeat("\n", 20_001):          "error 4\n",
		strings.Repeat("help\n", 4_000) + "x": "error 4\n",
		strings.Repeat("cut\n", 5_000):        strings.Repeat("cut\n", 5_000),
		strings.Repeat("\u00e9", 10_000):      "error 3\n",
		strings.Repeat("\u00e9", 10_001):      "error 4\n",
	} {
		if got := desk.Session(text); got != want {
			t.Errorf("%d bytes, %.10q .., are answered %.20q, not %.20q", len(text), text, got, want)
		}
	}
}

// 13.1: lines are cut at line feeds; one at the text's end is left out; the empty text is one line, the empty one.
func TestLines(t *testing.T) {
	for text, want := range map[string]string{
		"":                     "ok\n",
		"\n":                   "ok\n",
		"\n\n":                 "ok\nok\n",
		"\n\n\n":               "ok\nok\nok\n",
		"cut":                  "cut\n",
		"cut\n":                "cut\n",
		"cut\n\n":              "cut\nok\n",
		"\ncut":                "ok\ncut\n",
		"\ncut\n":              "ok\ncut\n",
		"cut\nfault":           "cut\nfault\n",
		"cut\n\nfault\n":       "cut\nok\nfault\n",
		"cut\r\nfault\r\n":     "error 3\nerror 3\n",
		"cut\rfault":           "error 3\n",
		"x\ncut\nx\n":          "error 3\ncut\nerror 3\n",
		"put 1\nx\ninsert t\n": "put\nerror 3\nerror 6\n",
	} {
		if got := desk.Session(text); got != want {
			t.Errorf("%q is answered %q, not %q", text, got, want)
		}
	}
}

// 13.1: words have blanks between, several, too, and at both ends; a line without words is answered ok.
func TestWords(t *testing.T) {
	talk(t,
		"", "ok",
		" ", "ok",
		"      ", "ok",
		"cut ", "cut",
		" cut", "cut",
		"   cut   ", "cut",
		" fault  1   2 ", "fault",
		"fault", "fault",
		"create  t   a:int    b:text ", "create 0",
		" do   t", "do 1",
		"columns ", "columns 1:a 2:b",
	)
	wrong(t, "3", "cu t", "c ut", "cutcut", "cut cut", "Cut", "CUT", "\tcut", "cut\t", "\t", "cut\v", "cut\f", "cut\x00", "cut\r",
		"\u00a0cut", "cut\u00a0", "\u2003cut", "\u0085", "\xa0", "\xffcut", "cut\xff", "fault\t1", "fault 1\t")
}

// 13.1: an error is answered error and its number, without a place.
func TestErrors(t *testing.T) {
	behind(t, table,
		"create T a:int", "error 1",
		"rows a 1", "error 3",
		"rows a = 9223372036854775808", "error 4",
		"rows c = 1", "error 5",
		"ask select a, count(*)", "error 6",
		"do x", "error 7",
		"create x a:int", "error 9",
		"fault 1", "fault",
		"put 1 'x'", "put",
		"insert x", "error 14",
		"put 1 null", "put",
		"put 1", "put",
		"insert x", "error 1",
	)
	full := "create t a:int\ndo t\n"
	for _, name := range strings.Fields("b c d e f g h") {
		full += "alter " + name + " more " + name + ":int\ndo " + name + "\n"
	}
	behind(t, full, "alter x more x:int", "error 12", "version", "version 8")
}

// 13.1: there is an empty bucket at first, no rows are about to come, and nothing is planned.
func TestBeginning(t *testing.T) {
	talk(t,
		"version", "version 0",
		"columns", "columns",
		"files", "files",
		"rows", "rows 0",
		"rows a = 1", "error 5",
		"at 0", "at 0",
		"at 1", "error 7",
		"ask select count(*)", "ask (0)",
		"ask select a", "error 5",
		"log 1", "error 7",
		"vacuum 0", "vacuum 0",
		"do t", "error 7",
		"insert t", "error 6",
		"delete t", "error 6",
		"update t a=1", "error 6",
		"compact t", "error 6",
		"alter t more a:int", "error 6",
		"alter t less a", "error 6",
		"alter t called a b", "error 6",
		"create t a:int", "create 0",
		"do t", "do 1",
		"insert u", "error 4",
	)
	for range 2 { // one text leaves nothing to the next one
		if got, want := desk.Session(strings.TrimSpace(table)), "create 0\ndo 1\nput\nput\nput\ninsert 3\ndo 2\n"; got != want {
			t.Errorf("the table is answered %q, not %q", got, want)
		}
	}
}

// 13.1: ErrForm, unless a line is one of these: of another word, or with too few words or too many.
func TestForm(t *testing.T) {
	wrong(t, "3",
		"x", "selects", "select a", "where", "-", "'", "=", "ok", "error 3", "creates t a:int", "updat t a=1",
		"create", "create t",
		"alter", "alter t", "alter t more", "alter t more a:int b:int", "alter t less", "alter t less a b", "alter t called", "alter t called a", "alter t called a b c",
		"alter t x", "alter t x a", "alter t x a b", "alter t More a:int", "alter more a:int", "alter less a", "alter called a b", "alter t a:int", "alter t rename a b",
		"insert", "insert t u", "insert t 1",
		"delete",
		"update", "update t", "update t where", "update t where a = 1", "update t a=1 where", "update t a", "update t a=1 b", "update t a=1 b=2 c where a = 1", "update t a =1", "update t a= 1", "update t a = 1",
		"compact", "compact t u",
		"put",
		"cut t", "cut 1",
		"do", "do t u",
		"version 1", "version t", "columns a", "files t", "help me", "help help",
		"at", "at a", "at a = 1",
		"ask",
		"log", "log 1 2", "vacuum", "vacuum 1 2",
	)
}

// 13.1: what is of another form changes nothing, and comes ahead of all that a layer would tell.
func TestFormFirst(t *testing.T) {
	wrong(t, "3", "create T a", "create T a:int b", "alter T more a", "update T a=x", "update T a=1 where a =", "delete T a =", "insert T T", "compact T T", "at 7 a =")
	wrong(t, "3", "update t a=x where a = 9223372036854775808", "update t a=1 x where a = 9223372036854775808", "at x a = 9223372036854775808")
	wrong(t, "4", "update T a=1 where a = 9223372036854775808", "delete T a = 9223372036854775808", "at 7 a = 9223372036854775808", "ask select a limit 0")
	behind(t, table+"put 7 'z'\ndelete v a = 1\nfault 1",
		"insert", "error 3",
		"insert w w", "error 3",
		"put 1 x", "error 3",
		"put x", "error 3",
		"cut x", "error 3",
		"do", "error 3",
		"do v v", "error 3",
		"fault 0 x", "error 3",
		"fault x", "error 3",
		"delete v b =", "error 3",
		"update v a=x", "error 3",
		"vacuum x", "error 3",
		"do v", "error 14", // the fault is there yet, and so was the plan
		"insert w", "insert 1",
		"do w", "do 3",
		"rows a = 7", "rows 1 (7,'z')",
	)
}

// 13.1: what help tells.
func TestHelp(t *testing.T) {
	const want = "alter ask at columns compact create cut delete do fault files help insert log put rows update vacuum version"
	talk(t, "help", want, " help ", want)
	behind(t, table, "help", want)
}
