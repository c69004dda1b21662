package ask_test

import (
	"reflect"
	"strings"
	"testing"

	"millpond/api"
	"millpond/ask"
	"millpond/plain"
)

var null = api.Value{}

func num(n int64) api.Value { return api.Value{Kind: api.Int, Num: n} }

func text(s string) api.Value { return api.Value{Kind: api.Text, Text: s} }

func leaf(code int, column string, v api.Value) *api.Cond {
	return &api.Cond{Code: code, Column: column, Value: v}
}

func not(c *api.Cond) *api.Cond { return &api.Cond{Code: api.Not, Left: c} }

func and(a, b *api.Cond) *api.Cond { return &api.Cond{Code: api.And, Left: a, Right: b} }

func or(a, b *api.Cond) *api.Cond { return &api.Cond{Code: api.Or, Left: a, Right: b} }

// die gives numbers that look drawn, the same each time.
type die uint64

func (d *die) n(most int) int {
	*d = *d*6364136223846793005 + 1442695040888963407
	return int(uint64(*d>>33) % uint64(most))
}

// wantErr says whether an error is just that Errno, at that place.
func wantErr(t *testing.T, what string, err error, want api.Errno, at int) {
	t.Helper()
	if e, place := plain.Place(err); e != want || place != at {
		t.Errorf("%.200q: error %d at %d, not %d at %d", what, e, place, want, at)
	}
}

// wantCond says whether a text is just that condition.
func wantCond(t *testing.T, s string, want *api.Cond) {
	t.Helper()
	if got, err := ask.Cond(s); err != nil || !reflect.DeepEqual(got, want) {
		t.Errorf("%.200q is %q, %v, not %q", s, ask.Print(got), err, ask.Print(want))
	}
}

// wrongCond says whether a text is no condition, for that reason, at that place; nothing else is told.
func wrongCond(t *testing.T, s string, want api.Errno, at int) {
	t.Helper()
	c, err := ask.Cond(s)
	wantErr(t, s, err, want, at)
	if c != nil {
		t.Errorf("%.200q: beside the error %q is told", s, ask.Print(c))
	}
}

// wantQuery says whether a text is just that question; an empty list may be nil or not.
func wantQuery(t *testing.T, s string, want ask.Query) {
	t.Helper()
	got, err := ask.Parse(s)
	same := len(got.By) == 0 && len(want.By) == 0 || reflect.DeepEqual(got.By, want.By)
	same = same && (len(got.Order) == 0 && len(want.Order) == 0 || reflect.DeepEqual(got.Order, want.Order))
	got.By, got.Order, want.By, want.Order = nil, nil, nil, nil
	if err != nil || !same || !reflect.DeepEqual(got, want) {
		t.Errorf("%.200q is %+v, %v, not %+v", s, got, err, want)
	}
}

// wrongQuery says whether a text is no question, for that reason, at that place; nothing else is told.
func wrongQuery(t *testing.T, s string, want api.Errno, at int) {
	t.Helper()
	q, err := ask.Parse(s)
	wantErr(t, s, err, want, at)
	if !reflect.DeepEqual(q, ask.Query{}) {
		t.Errorf("%.200q: beside the error %+v is told", s, q)
	}
}

// wrongHere says whether a text with | in it, which is left out, is no condition, and behind `select a where` no question, for that reason, at the |.
func wrongHere(t *testing.T, marked string, want api.Errno) {
	t.Helper()
	at := strings.Index(marked, "|")
	s := strings.Replace(marked, "|", "", 1)
	wrongCond(t, s, want, at)
	ahead := "select a where "
	wrongQuery(t, ahead+s, want, len(ahead)+at)
}

// bits are those of which conditions and questions are made, and bits that are none.
func bits() []string {
	return []string{
		"a", "b", "count", "sum", "and", "or", "not", "is", "null", "select", "where", "by", "order", "desc", "limit",
		"1", "2", "-1", "0", "99999999999999999999", "'x'", "''", "'", "(", ")", "*", ",", "=", "<>", "<", ">=", "-", "_", "A", ";",
		"nnnnnnnnnnnnnnnnn", "\t", "\n", "\x00", "\xff", "\xc3\xa4", " ",
	}
}

// P1, P2, P3: whatever the text is, each call ends; beside an error nothing is told; it is an At at a byte of the text, or at its end.
func TestWhatever(t *testing.T) {
	d, l := die(1), bits()
	for range 50_000 {
		var b strings.Builder
		for range d.n(12) {
			b.WriteString(l[d.n(len(l))] + strings.Repeat(" ", d.n(2)))
		}
		s := b.String()
		c, wrong := ask.Cond(s)
		wantPlace(t, s, wrong)
		q, none := ask.Parse(s)
		wantPlace(t, s, none)
		if wrong != nil && c != nil || none != nil && !reflect.DeepEqual(q, ask.Query{}) {
			t.Fatalf("%q: beside an error %+v, %+v are told", s, c, q)
		}
		if wrong == nil && none == nil {
			t.Fatalf("%q is both a condition and a question", s)
		}
	}
}

// wantPlace says whether an error is one that a text may have.
func wantPlace(t *testing.T, s string, err error) {
	t.Helper()
	if err == nil {
		return
	}
	e, place := plain.Place(err)
	if e != api.ErrForm && e != api.ErrLimit || place < 0 || place > len(s) {
		t.Fatalf("%q: error %d at %d", s, e, place)
	}
}

// P1: texts that are long, or go deep, end too.
func TestLong(t *testing.T) {
	const n = 1 << 20
	wantCond(t, strings.Repeat(" ", n), nil)
	wantCond(t, strings.Repeat(" ", n)+"a = 1"+strings.Repeat(" ", n), leaf(api.Eq, "a", num(1)))
	wantCond(t, "a = "+strings.Repeat("0", n)+"1", leaf(api.Eq, "a", num(1)))
	wrongQuery(t, strings.Repeat(" ", n), api.ErrForm, n)
	wrongCond(t, strings.Repeat("(", n), api.ErrLimit, api.MaxTokens)
	wrongCond(t, strings.Repeat("not ", n), api.ErrLimit, 4*api.MaxTokens)
	wrongCond(t, strings.Repeat("a", n)+"=1", api.ErrLimit, 0)
	wrongCond(t, "a="+strings.Repeat("1", n), api.ErrLimit, 2)
	wrongCond(t, "a='"+strings.Repeat("1", n)+"'", api.ErrLimit, 2)
	wrongCond(t, "a='"+strings.Repeat("1", n), api.ErrForm, 2)
}

// P4: what is told is the caller's: who writes into it changes nothing that is told later.
func TestOwn(t *testing.T) {
	const s = "select a, sum(b) where a = 1 and not b = 'x' by a, b order 1, 2 desc limit 3"
	const where = "a = 1 and not b = 'x'"
	for range 2 {
		wantCond(t, where, and(leaf(api.Eq, "a", num(1)), not(leaf(api.Eq, "b", text("x")))))
		q, err := ask.Parse(s)
		want := ask.Query{
			Items: []ask.Item{{"", "a"}, {"sum", "b"}}, Where: and(leaf(api.Eq, "a", num(1)), not(leaf(api.Eq, "b", text("x")))),
			By: []string{"a", "b"}, Order: []ask.Order{{0, false}, {1, true}}, Limit: 3,
		}
		if err != nil || !reflect.DeepEqual(q, want) {
			t.Fatalf("%q is %+v, %v", s, q, err)
		}
		q.Items[0], q.By[0], q.Order[0] = ask.Item{Fn: "x", Column: "y"}, "z", ask.Order{Which: 7}
		*q.Where.Left, *q.Where = api.Cond{}, api.Cond{}
		c, _ := ask.Cond(where)
		*c.Left, *c.Right = api.Cond{}, api.Cond{}
	}
}
