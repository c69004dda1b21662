package value_test

import (
	"math"
	"reflect"
	"strings"
	"testing"

	"millpond/api"
	"millpond/value"
)

var null = api.Value{}

func num(n int64) api.Value { return api.Value{Kind: api.Int, Num: n} }

func text(s string) api.Value { return api.Value{Kind: api.Text, Text: s} }

// rising are values that are Right, from the least on.
func rising() []api.Value {
	return []api.Value{
		null,
		num(math.MinInt64), num(-2), num(-1), num(0), num(1), num(10), num(math.MaxInt64),
		text(""), text(" "), text("-1"), text("10"), text("9"), text("B"), text("a"), text("a b"), text("aa"), text("b"), text("~"),
	}
}

// 1.1: Right.
func TestRight(t *testing.T) {
	yes := append(rising(), text(strings.Repeat("x", api.MaxLetters)))
	for b := byte(32); b <= 126; b++ {
		if b != '\'' {
			yes = append(yes, text(string([]byte{'x', b})))
		}
	}
	for _, v := range yes {
		if !value.Right(v) {
			t.Errorf("Right(%#v) is false", v)
		}
	}
	no := []api.Value{
		{Kind: api.Null, Num: 1},
		{Kind: api.Null, Text: "a"},
		{Kind: api.Int, Num: 1, Text: "a"},
		{Kind: api.Text, Num: 1, Text: "a"},
		{Kind: -1},
		{Kind: api.Text + 1},
		{Kind: math.MaxInt},
		text(strings.Repeat("x", api.MaxLetters+1)),
		text("'"),
		text("it's"),
		text("é"),
		text("水"),
		text("\uFFFD"),
		text("\xff"),
		text("a\xc3"),
		text("\xc3 "),
	}
	for b := range 256 {
		if b < 32 || b > 126 {
			no = append(no, text(string([]byte{'x', byte(b)})))
		}
	}
	for _, v := range no {
		if value.Right(v) {
			t.Errorf("Right(%#v) is true", v)
		}
	}
}

func sign(n int) int {
	switch {
	case n < 0:
		return -1
	case n > 0:
		return 1
	}
	return 0
}

// 1.1: Compare, of each with each.
func TestCompare(t *testing.T) {
	l := rising()
	for i, a := range l {
		for j, b := range l {
			if got, want := sign(value.Compare(a, b)), sign(i-j); got != want {
				t.Errorf("Compare(%#v, %#v) is %d, want %d", a, b, got, want)
			}
		}
	}
}

// 1.1: Print; what is of no kind is not told.
func TestPrint(t *testing.T) {
	for _, c := range []struct {
		v    api.Value
		want string
	}{
		{null, "null"},
		{num(0), "0"},
		{num(7), "7"},
		{num(-40), "-40"},
		{num(math.MinInt64), "-9223372036854775808"},
		{num(math.MaxInt64), "9223372036854775807"},
		{text(""), "''"},
		{text("x y"), "'x y'"},
		{text("null"), "'null'"},
		{text("7"), "'7'"},
		{api.Value{Kind: -1, Num: 7, Text: "a"}, ""},
		{api.Value{Kind: 3, Num: 7, Text: "a"}, ""},
	} {
		if got := value.Print(c.v); got != c.want {
			t.Errorf("Print(%#v) is %q, want %q", c.v, got, c.want)
		}
	}
}

// 1.2: Is, of each code and each with each.
func TestIs(t *testing.T) {
	l := rising()
	for i, a := range l {
		for j, b := range l {
			asked := map[int]bool{
				api.Eq: i == j, api.Ne: i != j,
				api.Lt: i < j, api.Le: i <= j,
				api.Gt: i > j, api.Ge: i >= j,
				0: false, -1: false, api.IsNull: false, api.NotNull: false, api.And: false, api.Or: false, api.Not: false, 99: false,
			}
			for code, so := range asked {
				want := 0
				switch {
				case a.Kind == api.Null || a.Kind != b.Kind:
					want = -1
				case so:
					want = 1
				}
				if got := value.Is(code, a, b); got != want {
					t.Errorf("Is(%d, %#v, %#v) is %d, want %d", code, a, b, got, want)
				}
			}
		}
	}
}

// row tells 5 of n, a text of t, and nothing of all else.
func row(column string) api.Value {
	switch column {
	case "n":
		return num(5)
	case "t":
		return text("b")
	}
	return null
}

func leaf(code int, column string, v api.Value) *api.Cond {
	return &api.Cond{Code: code, Column: column, Value: v}
}

func not(c *api.Cond) *api.Cond { return &api.Cond{Code: api.Not, Left: c} }

func both(code int, left, right *api.Cond) *api.Cond {
	return &api.Cond{Code: code, Left: left, Right: right}
}

// which is a condition that comes to 1, 0, or -1, of row.
func which(n int) *api.Cond {
	switch n {
	case 1:
		return leaf(api.Eq, "n", num(5))
	case 0:
		return leaf(api.Eq, "n", num(6))
	}
	return leaf(api.Eq, "none", num(5))
}

func wantHolds(t *testing.T, what string, c *api.Cond, want int) {
	t.Helper()
	if got := value.Holds(c, row); got != want {
		t.Errorf("Holds of %s is %d, want %d", what, got, want)
	}
}

// 1.2: Holds, of a column.
func TestHoldsColumn(t *testing.T) {
	for _, c := range []struct {
		what string
		c    *api.Cond
		want int
	}{
		{"nil", nil, 1},
		{"n = 5", leaf(api.Eq, "n", num(5)), 1},
		{"n <> 5", leaf(api.Ne, "n", num(5)), 0},
		{"n < 5", leaf(api.Lt, "n", num(5)), 0},
		{"n < 6", leaf(api.Lt, "n", num(6)), 1},
		{"n <= 5", leaf(api.Le, "n", num(5)), 1},
		{"n > 4", leaf(api.Gt, "n", num(4)), 1},
		{"n > 5", leaf(api.Gt, "n", num(5)), 0},
		{"n >= 5", leaf(api.Ge, "n", num(5)), 1},
		{"t > 'a'", leaf(api.Gt, "t", text("a")), 1},
		{"t > 'ba'", leaf(api.Gt, "t", text("ba")), 0},
		{"t = 5", leaf(api.Eq, "t", num(5)), -1},
		{"t <> 5", leaf(api.Ne, "t", num(5)), -1},
		{"n = null", leaf(api.Eq, "n", null), -1},
		{"none = null", leaf(api.Eq, "none", null), -1},
		{"none <> 5", leaf(api.Ne, "none", num(5)), -1},
		{"n is null", leaf(api.IsNull, "n", null), 0},
		{"none is null", leaf(api.IsNull, "none", null), 1},
		{"n is not null", leaf(api.NotNull, "n", null), 1},
		{"none is not null", leaf(api.NotNull, "none", null), 0},
		{"no code, of n", leaf(99, "n", num(5)), 0},
		{"no code, of nothing", leaf(0, "none", num(5)), -1},
	} {
		wantHolds(t, c.what, c.c, c.want)
	}
}

// 1.2: a column is any text, and it alone is asked for.
func TestHoldsAsksItsColumn(t *testing.T) {
	for _, column := range []string{"", "a", "no 'name'", "\xff"} {
		get := func(asked string) api.Value {
			if asked == column {
				return num(1)
			}
			return num(2)
		}
		if got := value.Holds(leaf(api.Eq, column, num(1)), get); got != 1 {
			t.Errorf("Holds of a column %q is %d, want 1", column, got)
		}
	}
}

// 1.2: Holds, of others: what is not known stays unknown.
func TestHoldsOthers(t *testing.T) {
	for _, c := range []struct{ left, right, and, or int }{
		{1, 1, 1, 1}, {1, 0, 0, 1}, {1, -1, -1, 1},
		{0, 1, 0, 1}, {0, 0, 0, 0}, {0, -1, 0, -1},
		{-1, 1, -1, 1}, {-1, 0, 0, -1}, {-1, -1, -1, -1},
	} {
		wantHolds(t, "and", both(api.And, which(c.left), which(c.right)), c.and)
		wantHolds(t, "or", both(api.Or, which(c.left), which(c.right)), c.or)
	}
	for n, want := range map[int]int{1: 0, 0: 1, -1: -1} {
		wantHolds(t, "not", not(which(n)), want)
		wantHolds(t, "not not", not(not(which(n))), n)
	}
	wantHolds(t, "n = 5 and not (none = 5 or n = 6)", both(api.And, which(1), not(both(api.Or, which(-1), which(0)))), -1)
	wantHolds(t, "n = 6 or not (none = 5 and n = 6)", both(api.Or, which(0), not(both(api.And, which(-1), which(0)))), 1)
}

// 1.2: one may lie in 20 others (and the longest text of a condition makes it 23), on either side, and many times.
func TestHoldsDeep(t *testing.T) {
	for _, deep := range []int{20, 23} {
		nots, left, right := which(1), which(0), which(-1)
		for range deep {
			nots = not(nots)
			left = both(api.Or, left, which(0))
			right = both(api.And, which(1), right)
		}
		wantHolds(t, "many nots", nots, 1-deep%2)
		wantHolds(t, "many ors", left, 0)
		wantHolds(t, "many ands", right, -1)
	}
	shared := which(1)
	for range 20 {
		shared = both(api.And, shared, shared)
	}
	wantHolds(t, "shared parts", shared, 1)
}

// P1: whatever it is given, a call ends, and does not panic.
func TestHoldsEnds(t *testing.T) {
	round := []*api.Cond{{Code: api.Not}, {Code: api.And}, {Code: api.Or}, {Code: api.Eq}}
	for _, c := range round {
		c.Left, c.Right = c, c
		wantHolds(t, "what goes round", c, 0)
	}
	last := both(api.Or, which(0), nil)
	last.Right = both(api.And, which(1), last)
	wantHolds(t, "what goes round on the right", last, 0)
	far := which(1)
	for range 1 << 16 {
		far = not(far)
	}
	wantHolds(t, "what lies too deep", far, 0)
	wide := which(1)
	for range 64 {
		wide = both(api.And, wide, wide)
	}
	wantHolds(t, "what is shared too deep", wide, 0)
}

// P1: parts that are not there are nil, and hold.
func TestHoldsWithoutParts(t *testing.T) {
	wantHolds(t, "not, of nil", not(nil), 0)
	wantHolds(t, "and, of nil", both(api.And, nil, nil), 1)
	wantHolds(t, "or, of nil", both(api.Or, nil, which(0)), 1)
	wantHolds(t, "no code", &api.Cond{}, -1)
}

// P1: a get that is nil, or panics, tells nothing.
func TestHoldsWithoutGet(t *testing.T) {
	fails := func(string) api.Value { panic("no such column") }
	for _, get := range []func(string) api.Value{nil, fails} {
		for _, c := range []struct {
			c    *api.Cond
			want int
		}{
			{nil, 1},
			{which(1), -1},
			{leaf(api.IsNull, "n", null), 1},
			{leaf(api.NotNull, "n", null), 0},
			{both(api.Or, nil, which(1)), 1},
		} {
			if got := value.Holds(c.c, get); got != c.want {
				t.Errorf("Holds of %+v, of what is not told, is %d, want %d", c.c, got, c.want)
			}
		}
	}
}

// P1, P4: values that are not Right are no reason to panic, and what is asked twice is told twice.
func TestWrongValues(t *testing.T) {
	l := append(rising(), api.Value{Kind: -5, Num: 3, Text: "'"}, api.Value{Kind: 7}, api.Value{Num: 1, Text: "\xff"}, text(strings.Repeat("é", 1000)))
	for _, a := range l {
		if value.Print(a) != value.Print(a) || value.Right(a) != value.Right(a) {
			t.Errorf("%#v is told in two ways", a)
		}
		for _, b := range l {
			if sign(value.Compare(a, b)) != -sign(value.Compare(b, a)) {
				t.Errorf("Compare(%#v, %#v) has no other way round", a, b)
			}
			for code := -1; code <= api.Not+1; code++ {
				if n := value.Is(code, a, b); n < -1 || n > 1 || n != value.Is(code, a, b) {
					t.Errorf("Is(%d, %#v, %#v) is %d", code, a, b, n)
				}
			}
		}
	}
}

// P4: a condition is not written into.
func TestHoldsLeavesItsCondition(t *testing.T) {
	fresh := func() *api.Cond {
		return both(api.And, not(which(0)), both(api.Or, which(-1), leaf(api.NotNull, "t", null)))
	}
	c := fresh()
	wantHolds(t, "a condition", c, 1)
	wantHolds(t, "it again", c, 1)
	if !reflect.DeepEqual(c, fresh()) {
		t.Error("Holds has written into its condition")
	}
}
