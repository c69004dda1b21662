package log_test

import (
	"fmt"
	"math"
	"reflect"
	"regexp"
	"slices"
	"strconv"
	"strings"
	"testing"

	"millpond/api"
	"millpond/log"
)

// wantText says whether a commit is written so, and read again.
func wantText(t *testing.T, c api.Commit, want string) {
	t.Helper()
	s, err := log.Print(c)
	if s != want || err != nil {
		t.Errorf("Print(%+v) is %q, %v, not %q", c, s, err, want)
	}
	got, err := log.Parse(want)
	if fmt.Sprintf("%+v", got) != fmt.Sprintf("%+v", c) || err != nil {
		t.Errorf("Parse(%q) is %+v, %v, not %+v", want, got, err, c)
	}
}

// wantNoText says whether a commit can't be written.
func wantNoText(t *testing.T, c api.Commit) {
	t.Helper()
	s, err := log.Print(c)
	wantErr(t, fmt.Sprintf("Print of %+v", c), err, api.ErrArg, -1)
	if s != "" {
		t.Errorf("Print(%+v) is %q beside an error", c, s)
	}
}

// wantNoCommit says whether a text is no commit.
func wantNoCommit(t *testing.T, s string) {
	t.Helper()
	c, err := log.Parse(s)
	wantErr(t, fmt.Sprintf("Parse of %.200q", s), err, api.ErrForm, -1)
	if !reflect.DeepEqual(c, api.Commit{}) {
		t.Errorf("Parse(%.200q) is %+v beside an error", s, c)
	}
}

func word(s string) api.Value { return api.Value{Kind: api.Text, Text: s} }

func number(n int64) api.Value { return api.Value{Kind: api.Int, Num: n} }

// 7.2: the lines of a commit, both ways.
func TestPrint(t *testing.T) {
	long := strings.Repeat("x", 16)
	full := make([]int, 60)
	for i := range full {
		full[i] = i
	}
	for want, c := range map[string]api.Commit{
		"commit t blind\n":            by(),
		"commit " + long + " reads\n": {Tx: long, Reads: true},
		"commit commit blind\nadd add 1\nremove remove\nmask mask 0\n": {Tx: "commit", Actions: []api.Action{add("add", 1), remove("remove"), mask("mask", 0)}},
		"commit t reads\nadd f 60\n":                                   {Tx: "t", Reads: true, Actions: []api.Action{add("f", 60)}},
		"commit t blind\nremove " + long + "\nremove f\nremove f\n":    by(remove(long), remove("f"), remove("f")),
		"commit t blind\nmask f 0,7,59\nmask g 10\n":                   by(mask("f", 0, 7, 59), mask("g", 10)),
		"commit t blind\nmask f " + numbered(full) + "\n":              by(mask("f", full...)),
		"commit t blind\nschema 2 1 a 1 may null\nadd f 3\n":           by(columns(2, one(1, "a")), add("f", 3)),
		"commit t blind\nadd f 1\nadd f 2\nmask none 59\n":             by(add("f", 1), add("f", 2), mask("none", 59)),
		"commit t blind\nschema 9 8 b 2 must 'x y';1 a 1 must -5;2 c 2 may '';3 d 2 must null\n": by(columns(9,
			api.Column{ID: 8, Name: "b", Kind: api.Text, Must: true, Default: word("x y")},
			api.Column{ID: 1, Name: "a", Kind: api.Int, Must: true, Default: number(-5)},
			api.Column{ID: 2, Name: "c", Kind: api.Text, Default: word("")},
			api.Column{ID: 3, Name: "d", Kind: api.Text, Must: true})),
		"commit t blind\nschema 9 1 a 1 may 9223372036854775807;2 b 1 may -9223372036854775808;3 c 1 may 0\n": by(columns(9,
			api.Column{ID: 1, Name: "a", Kind: api.Int, Default: number(math.MaxInt64)},
			api.Column{ID: 2, Name: "b", Kind: api.Int, Default: number(math.MinInt64)},
			api.Column{ID: 3, Name: "c", Kind: api.Int, Default: number(0)})),
		"commit t blind\nschema 9223372036854775807 9223372036854775806 a 1 may null\n": by(columns(math.MaxInt, one(math.MaxInt-1, "a"))),
	} {
		wantText(t, c, want)
	}
}

func numbered(l []int) string {
	var texts []string
	for _, n := range l {
		texts = append(texts, strconv.Itoa(n))
	}
	return strings.Join(texts, ",")
}

// 7.2: within the text that a column is in older rows, the marks of a line are letters as others are.
func TestPrintMarks(t *testing.T) {
	for _, text := range []string{
		";", " ", ",", "; ;", ";2 b 1 may null", " null", "null", "may 'x", "1 a 1 may", "~!\"#$%&()*+,-./:;<=>?@[\\]^_`{|}", strings.Repeat(";", 40),
	} {
		c := by(columns(4, api.Column{ID: 1, Name: "a", Kind: api.Text, Default: word(text)}, one(2, "b"), api.Column{ID: 3, Name: "c", Kind: api.Text, Default: word(text)}))
		if strings.Contains(text, "'") {
			wantNoText(t, c)
			continue
		}
		wantText(t, c, "commit t blind\nschema 4 1 a 2 may '"+text+"';2 b 1 may null;3 c 2 may '"+text+"'\n")
	}
}

// 7.2: an empty list is nothing that is told, be it nil or not.
func TestPrintEmpty(t *testing.T) {
	a := api.Action{Kind: api.Remove, Path: "f", Mask: []int{}, Columns: []api.Column{}}
	if s, err := log.Print(by(a)); s != "commit t blind\nremove f\n" || err != nil {
		t.Errorf("Print is %q, %v", s, err)
	}
	if s, err := log.Print(api.Commit{Tx: "t", Actions: []api.Action{}}); s != "commit t blind\n" || err != nil {
		t.Errorf("Print is %q, %v", s, err)
	}
}

// 7.2: who is called otherwise.
func TestPrintTx(t *testing.T) {
	for _, tx := range []string{"", "T", "1", "_a", "a b", "a\n", "a-", "é", strings.Repeat("a", 17)} {
		wantNoText(t, api.Commit{Tx: tx})
		wantNoText(t, api.Commit{Tx: tx, Actions: []api.Action{remove("f")}})
	}
}

// 7.2: actions that may not be by themselves, wherever they stand.
func TestPrintWrong(t *testing.T) {
	l := []api.Action{
		{}, {Kind: 5, Path: "f"}, {Kind: -1}, {Kind: 0, Path: "f", Rows: 1}, {Kind: math.MaxInt},
		add("", 1), add("F", 1), add("a b", 1), add("a\n", 1), add(strings.Repeat("x", 17), 1), add("f", 0), add("f", -1), add("f", 61), add("f", math.MaxInt),
		remove(""), remove("F"), remove("a b"), remove("a\n"), remove(strings.Repeat("x", 17)),
		mask("", 0), mask("F", 0), mask("f"), mask("f", -1), mask("f", 60), mask("f", 0, 60), mask("f", 0, 0), mask("f", 1, 0), mask("f", 0, 2, 1), mask("f", math.MaxInt), mask("f", math.MinInt),
		columns(2), columns(1, one(1, "a")), columns(0, one(1, "a")), columns(2, one(0, "a")), columns(2, one(1, "A")), columns(2, one(1, "null")),
		columns(3, one(1, "a"), one(1, "b")), columns(3, one(1, "a"), one(2, "a")),
		columns(2, api.Column{ID: 1, Name: "a"}), columns(2, api.Column{ID: 1, Name: "a", Kind: 3}),
		columns(2, api.Column{ID: 1, Name: "a", Kind: api.Int, Default: word("")}), columns(2, api.Column{ID: 1, Name: "a", Kind: api.Text, Default: number(1)}),
		columns(2, api.Column{ID: 1, Name: "a", Kind: api.Text, Default: word("'")}), columns(2, api.Column{ID: 1, Name: "a", Kind: api.Text, Default: word("\n")}),
		columns(2, api.Column{ID: 1, Name: "a", Kind: api.Text, Default: word(strings.Repeat("x", 41))}),
		columns(2, api.Column{ID: 1, Name: "a", Kind: api.Int, Default: api.Value{Num: 1}}), columns(2, api.Column{ID: 1, Name: "a", Kind: api.Int, Default: api.Value{Kind: 3}}),
	}
	var many []api.Column
	for i := range 9 {
		many = append(many, one(i+1, "c"+fmt.Sprint(i)))
	}
	for _, a := range append(l, columns(10, many...)) {
		wantNoText(t, by(a))
		wantNoText(t, by(add("f", 1), a))
		wantNoText(t, by(a, add("f", 1)))
	}
}

// 7.2: an action that has something that its line does not tell.
func TestPrintMore(t *testing.T) {
	for name, more := range map[string]func(*api.Action){
		"a path":  func(a *api.Action) { a.Path = "f" },
		"rows":    func(a *api.Action) { a.Rows = 1 },
		"no rows": func(a *api.Action) { a.Rows = -1 },
		"places":  func(a *api.Action) { a.Mask = []int{0} },
		"columns": func(a *api.Action) { a.Columns = []api.Column{one(1, "a")} },
		"a next":  func(a *api.Action) { a.Next = 2 },
	} {
		for _, was := range []api.Action{add("f", 1), remove("f"), mask("f", 0), columns(2, one(1, "a"))} {
			a := was
			if more(&a); reflect.DeepEqual(a, was) {
				continue // it is told
			}
			if a.Kind == api.Add && name == "no rows" {
				continue // it is told, and wrong
			}
			wantNoText(t, by(a))
			if _, err := log.Print(by(was)); err != nil {
				t.Errorf("Print without %s: %v", name, err)
			}
		}
	}
}

// 7.2: texts that Print never tells.
func TestParseWrong(t *testing.T) {
	const head = "commit t blind\n"
	for _, s := range []string{
		"", "\n", " ", "commit", "commit\n", "commit t\n", "commit t blind", "commit t \n", "commit  blind\n", "commit t read\n", "commit t blind \n", " commit t blind\n",
		"commit t  blind\n", "Commit t blind\n", "add f 1\n", "commit T blind\n", "commit t blind\r\n", "commit t blind\n\n", "\ncommit t blind\n", "commit t blind\x00\n",
		"commit t blind reads\n", "commit t blind\ncommit t blind\n", "commit " + strings.Repeat("x", 17) + " blind\n",
	} {
		wantNoCommit(t, s)
	}
	for _, line := range []string{
		"", " ", "add", "add f", "add f ", "add f 0", "add f 61", "add f 01", "add f +1", "add f -1", "add f 1 ", "add  f 1", "add f  1", " add f 1", "add F 1", "add f 1,2", "add f x",
		"add f 99999999999999999999", "add f 1_0", "add f 0x1", "add  1", "add f 1 1",
		"remove", "remove ", "remove F", "remove f ", "remove f 1", "remove  f", "remove f f", "Remove f",
		"mask", "mask f", "mask f ", "mask  0", "mask f 0,", "mask f ,0", "mask f 0,,1", "mask f 0, 1", "mask f 1,0", "mask f 0,0", "mask f 60", "mask f 00", "mask f -0", "mask f -1", "mask f 0,+1",
		"mask f 01", "mask f 0;1", "mask F 0", "mask f 0 ", "mask f 99999999999999999999", "mask f 0 1",
		"schema", "schema ", "schema 2", "schema 2 ", "schema 1 1 a 1 may null", "schema 02 1 a 1 may null", "schema x 1 a 1 may null", "schema -2 1 a 1 may null", "schema 2 01 a 1 may null",
		"schema 2 0 a 1 may null", "schema 2 1 A 1 may null", "schema 2 1 or 1 may null", "schema 2 1 a 0 may null", "schema 2 1 a 3 may null", "schema 2 1 a 01 may null", "schema 2 1 a 1 might null",
		"schema 2 1 a 1 null", "schema 2 1 a 1 may", "schema 2 1 a 1 may ", "schema 2 1 a 1 may nul", "schema 2 1 a 1 may Null", "schema 2 1 a 1 may 'x'", "schema 2 1 a 2 may 1", "schema 2 1 a 2 may 'x",
		"schema 2 1 a 2 may x'", "schema 2 1 a 2 may 'x'y", "schema 2 1 a 2 may 'x'''", "schema 2 1 a 1 may 01", "schema 2 1 a 1 may +1", "schema 2 1 a 1 may -0", "schema 2 1 a 1 may 9223372036854775808",
		"schema 2 1 a 1 may null;", "schema 2 ;1 a 1 may null", "schema 2 1 a 1 may null ", "schema 3 1 a 1 may null; 2 b 1 may null", "schema 3 1 a 1 may null;;2 b 1 may null",
		"schema 3 1 a 1 may null,2 b 1 may null", "schema 3 1 a 2 may 'x'2 b 1 may null", "schema 3 1 a 1 may null;1 b 1 may null", "schema 3 1 a 1 may null;2 a 1 may null",
		"schema 2 1 a 2 may '" + strings.Repeat("x", 41) + "'", "schema 2 1 a 2 may '\t'", "schema 2 1 a 2 may '\xff'", "schema 99999999999999999999 1 a 1 may null", "schema 2 1  a 1 may null",
		"sub f", "masks f 0", "add f 1\r", "\x00",
	} {
		wantNoCommit(t, head+line+"\n")
		wantNoCommit(t, head+"add f 1\n"+line+"\n")
		wantNoCommit(t, head+line+"\nadd f 1\n")
	}
	for _, s := range []string{"add f 1", "add f 1\nremove g", "add f 1\n\n", "\nadd f 1\n"} {
		wantNoCommit(t, head+s)
	}
}

// mayBeText is the form of a commit by other means than the program's, but for what numbers and names say together.
var mayBeText = regexp.MustCompile(`^commit [a-z][a-z0-9_]{0,15} (reads|blind)\n` +
	`(add [a-z][a-z0-9_]{0,15} ([1-9]|[1-5][0-9]|60)\n` +
	`|remove [a-z][a-z0-9_]{0,15}\n` +
	`|mask [a-z][a-z0-9_]{0,15} ([0-9]|[1-5][0-9])(,([0-9]|[1-5][0-9]))*\n` +
	`|schema [1-9][0-9]* [1-9][0-9]* [a-z][a-z0-9_]{0,15} (1 (must|may) (null|0|-?[1-9][0-9]*)|2 (must|may) (null|'[ -&(-~]{0,40}'))` +
	`(;[1-9][0-9]* [a-z][a-z0-9_]{0,15} (1 (must|may) (null|0|-?[1-9][0-9]*)|2 (must|may) (null|'[ -&(-~]{0,40}')))*\n` +
	`)*$`)

// drawnCommit is a commit that may be written.
func drawnCommit(d *die) api.Commit {
	c := api.Commit{Tx: []string{"t", "u_1", "reads"}[d.n(3)], Reads: d.n(2) == 0}
	for range d.n(4) {
		a := drawn(d)
		switch {
		case a.Kind == api.Mask:
			a.Mask = append(slices.Compact(slices.Sorted(slices.Values(a.Mask))), 9+d.n(51))
		case a.Kind == api.Schema:
			a.Next = 7
			a.Columns[0].Must = d.n(2) == 0
			a.Columns = append(a.Columns, api.Column{ID: 6, Name: "b", Kind: api.Text, Default: word([]string{"", "x", "; 1", ",'"}[d.n(3)])})
		}
		c.Actions = append(c.Actions, a)
	}
	return c
}

// 7.2: what is written is read as it was; and a text of which a byte is changed, taken out or put in is a commit only if it is written just so.
func TestParseDrawn(t *testing.T) {
	d := die(11)
	const letters = "\n ;,'0129tamb-_;x\x00\xff"
	seen := [2]int{}
	for range 400 {
		c := drawnCommit(&d)
		s, err := log.Print(c)
		if err != nil || !mayBeText.MatchString(s) {
			t.Fatalf("Print(%+v) is %q, %v", c, s, err)
		}
		wantText(t, c, s)
		for range 40 {
			i, letter := d.n(len(s)), string(letters[d.n(len(letters))])
			u := []string{s[:i] + letter + s[i+1:], s[:i] + s[i+1:], s[:i] + letter + s[i:], s[:i]}[d.n(4)]
			got, err := log.Parse(u)
			if err != nil {
				seen[0]++
				wantNoCommit(t, u)
				if mayBeText.MatchString(u) && !strings.Contains(u, "mask") && !strings.Contains(u, "schema") {
					t.Errorf("Parse(%q) is %v, but it is a commit", u, err)
				}
				continue
			}
			seen[1]++
			if again, err := log.Print(got); again != u || err != nil || !mayBeText.MatchString(u) {
				t.Errorf("Parse(%q) is %+v, which is written %q, %v", u, got, again, err)
			}
		}
	}
	if seen[0] < 1000 || seen[1] < 1000 {
		t.Errorf("%d texts are none, %d are: too few to tell", seen[0], seen[1])
	}
}

// P1: texts that are long end soon.
func TestParseLong(t *testing.T) {
	const head, many = "commit t blind\n", 300_000
	for _, line := range []string{
		"mask f 0" + strings.Repeat(",1", many), "schema 9 " + strings.Repeat("1 a 1 may null;", many), "schema 9 " + strings.Repeat(";", many),
		"schema 9 " + strings.Repeat(" ", many), "schema 9 1 a 2 may " + strings.Repeat("'", many), "add " + strings.Repeat("f", many) + " 1", strings.Repeat("\n", many),
		"add f " + strings.Repeat("1", many),
	} {
		wantNoCommit(t, head+line+"\n")
	}
	c := by()
	for i := range many {
		c.Actions = append(c.Actions, add("f", 1+i%60))
	}
	s, err := log.Print(c)
	if err != nil {
		t.Fatal(err)
	}
	if got, err := log.Parse(s); len(got.Actions) != many || err != nil {
		t.Errorf("Parse tells %d actions, %v", len(got.Actions), err)
	}
}

// P4: what is handed in stays as it is, and each answer is the caller's.
func TestPrintKeepsOff(t *testing.T) {
	c := by(mask("f", 0, 2), columns(3, one(1, "a"), one(2, "b")))
	was := fmt.Sprintf("%+v", c)
	s, err := log.Print(c)
	if now := fmt.Sprintf("%+v", c); now != was || err != nil {
		t.Errorf("the commit is %s, not %s, behind Print (%v)", now, was, err)
	}
	first, _ := log.Parse(s)
	first.Actions[0].Mask[0], first.Actions[1].Columns[0].Name = 1, "spoilt"
	if second, _ := log.Parse(s); fmt.Sprintf("%+v", second) != was {
		t.Errorf("Parse is %+v, not %s, once the first answer is written into", second, was)
	}
}
