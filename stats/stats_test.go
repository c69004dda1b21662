package stats_test

import (
	"math"
	"reflect"
	"slices"
	"strings"
	"testing"

	"millpond/api"
	"millpond/stats"
	"millpond/value"
)

var null = api.Value{}

func num(n int64) api.Value { return api.Value{Kind: api.Int, Num: n} }

func text(s string) api.Value { return api.Value{Kind: api.Text, Text: s} }

func list(l ...api.Value) []api.Value { return l }

// 3.1: Of.
func TestOf(t *testing.T) {
	most := text(strings.Repeat("~", api.MaxLetters))
	for _, c := range []struct {
		name string
		l    []api.Value
		want api.Stats
	}{
		{"nil", nil, api.Stats{}},
		{"no values", list(), api.Stats{}},
		{"nothing", list(null), api.Stats{Count: 1, Nulls: 1}},
		{"nothing alone", list(null, null, null), api.Stats{Count: 3, Nulls: 3}},
		{"one number", list(num(7)), api.Stats{Count: 1, Min: num(7), Max: num(7)}},
		{"0 is a number", list(num(0), null), api.Stats{Count: 2, Nulls: 1, Min: num(0), Max: num(0)}},
		{"an empty text is a text", list(null, text("")), api.Stats{Count: 2, Nulls: 1, Min: text(""), Max: text("")}},
		{"rising", list(num(1), num(2), num(3)), api.Stats{Count: 3, Min: num(1), Max: num(3)}},
		{"falling", list(num(3), num(2), num(1)), api.Stats{Count: 3, Min: num(1), Max: num(3)}},
		{"both in the midst", list(num(2), num(-3), num(9), num(4)), api.Stats{Count: 4, Min: num(-3), Max: num(9)}},
		{"the same ones", list(num(5), num(5)), api.Stats{Count: 2, Min: num(5), Max: num(5)}},
		{"nothing first", list(null, num(5), num(6)), api.Stats{Count: 3, Nulls: 1, Min: num(5), Max: num(6)}},
		{"nothing last", list(num(5), num(6), null), api.Stats{Count: 3, Nulls: 1, Min: num(5), Max: num(6)}},
		{"nothing among what is below 0", list(num(-5), null, num(-6)), api.Stats{Count: 3, Nulls: 1, Min: num(-6), Max: num(-5)}},
		{"the least and the greatest number", list(num(0), num(math.MaxInt64), num(math.MinInt64)), api.Stats{Count: 3, Min: num(math.MinInt64), Max: num(math.MaxInt64)}},
		{"texts byte by byte", list(text("b"), text("ab"), text("B"), text("10"), text("9")), api.Stats{Count: 5, Min: text("10"), Max: text("b")}},
		{"as many letters as can be", list(most, text("a"), text("")), api.Stats{Count: 3, Min: text(""), Max: most}},
		{"of two kinds", list(text("1"), num(2), null, text("0"), num(3)), api.Stats{Count: 5, Nulls: 1, Min: num(2), Max: text("1")}},
		{"of two kinds, numbers first", list(num(math.MaxInt64), text("")), api.Stats{Count: 2, Min: num(math.MaxInt64), Max: text("")}},
	} {
		if got := stats.Of(c.l); got != c.want {
			t.Errorf("%s: Of is %+v, not %+v", c.name, got, c.want)
		}
	}
}

// 3.1: Both.
func TestBoth(t *testing.T) {
	nothing := api.Stats{}
	nulls := api.Stats{Count: 2, Nulls: 2}
	low := api.Stats{Count: 3, Nulls: 1, Min: num(-4), Max: num(2)}
	high := api.Stats{Count: 5, Min: num(1), Max: num(8)}
	letters := api.Stats{Count: 4, Nulls: 2, Min: text(""), Max: text("b")}
	for _, c := range []struct {
		name       string
		a, b, want api.Stats
	}{
		{"no values", nothing, nothing, nothing},
		{"no values, and some", nothing, low, low},
		{"nothing, and no values", nulls, nothing, nulls},
		{"nothing twice", nulls, nulls, api.Stats{Count: 4, Nulls: 4}},
		{"nothing, and some", nulls, high, api.Stats{Count: 7, Nulls: 2, Min: num(1), Max: num(8)}},
		{"nothing, and some below 0", nulls, low, api.Stats{Count: 5, Nulls: 3, Min: num(-4), Max: num(2)}},
		{"one ahead of the other", low, high, api.Stats{Count: 8, Nulls: 1, Min: num(-4), Max: num(8)}},
		{"one within the other", high, api.Stats{Count: 1, Min: num(5), Max: num(5)}, api.Stats{Count: 6, Min: num(1), Max: num(8)}},
		{"the same", low, low, api.Stats{Count: 6, Nulls: 2, Min: num(-4), Max: num(2)}},
		{"of two kinds", low, letters, api.Stats{Count: 7, Nulls: 3, Min: num(-4), Max: text("b")}},
	} {
		if got := stats.Both(c.a, c.b); got != c.want {
			t.Errorf("%s: Both is %+v, not %+v", c.name, got, c.want)
		}
		if got := stats.Both(c.b, c.a); got != c.want {
			t.Errorf("%s, the other way round: Both is %+v, not %+v", c.name, got, c.want)
		}
	}
}

func leaf(code int, column string, v api.Value) *api.Cond {
	return &api.Cond{Code: code, Column: column, Value: v}
}

func not(c *api.Cond) *api.Cond { return &api.Cond{Code: api.Not, Left: c} }

func and(left, right *api.Cond) *api.Cond {
	return &api.Cond{Code: api.And, Left: left, Right: right}
}

func or(left, right *api.Cond) *api.Cond { return &api.Cond{Code: api.Or, Left: left, Right: right} }

func always(known api.Stats) func(string) api.Stats {
	return func(string) api.Stats { return known }
}

// word is how the tests below write a code of a condition of a column.
var word = map[int]string{
	api.Eq: "=", api.Ne: "<>", api.Lt: "<", api.Le: "<=", api.Gt: ">", api.Ge: ">=", api.IsNull: "null", api.NotNull: "some",
}

// ask is what is known of a column, a value, and the codes that may be, each between blanks.
type ask struct {
	name  string
	known api.Stats
	v     api.Value
	may   string
}

func asks() []ask {
	some := stats.Of(list(num(3), null, num(7)))
	full := stats.Of(list(num(3), num(7)))
	one := stats.Of(list(num(5), num(5)))
	letters := stats.Of(list(text("b"), text("bb")))
	edges := stats.Of(list(num(math.MinInt64), num(math.MaxInt64)))
	return []ask{
		{"no values", stats.Of(nil), num(5), " "},
		{"nothing alone", stats.Of(list(null, null)), num(5), " null "},
		{"below the least", some, num(2), " <> > >= null some "},
		{"the least", some, num(3), " = <> <= > >= null some "},
		{"between, though it is not there", some, num(5), " = <> < <= > >= null some "},
		{"the greatest", some, num(7), " = <> < <= >= null some "},
		{"above the greatest", some, num(8), " <> < <= null some "},
		{"the least, without nothing", full, num(3), " = <> <= > >= some "},
		{"one value, below it", one, num(4), " <> > >= some "},
		{"one value, just it", one, num(5), " = <= >= some "},
		{"one value, above it", one, num(6), " <> < <= some "},
		{"the least number", edges, num(math.MinInt64), " = <> <= > >= some "},
		{"the greatest number", edges, num(math.MaxInt64), " = <> < <= >= some "},
		{"a text of numbers", full, text("5"), " some "},
		{"nothing of numbers", full, null, " some "},
		{"nothing of nothing", stats.Of(list(null)), null, " null "},
		{"a number of texts", letters, num(5), " some "},
		{"texts, below", letters, text("a"), " <> > >= some "},
		{"texts, the least", letters, text("b"), " = <> <= > >= some "},
		{"texts, between", letters, text("ba"), " = <> < <= > >= some "},
		{"texts, the greatest", letters, text("bb"), " = <> < <= >= some "},
		{"texts, above", letters, text("bbb"), " <> < <= some "},
	}
}

// ofColumn is a condition of a column a, with a value only where it has one.
func ofColumn(code int, v api.Value) *api.Cond {
	if code == api.IsNull || code == api.NotNull {
		v = null
	}
	return leaf(code, "a", v)
}

// 3.2: May, of a column.
func TestMayColumn(t *testing.T) {
	for _, c := range asks() {
		for code, w := range word {
			want := strings.Contains(c.may, " "+w+" ")
			if got := stats.May(ofColumn(code, c.v), always(c.known)); got != want {
				t.Errorf("%s: May of %s is %v", c.name, w, got)
			}
		}
	}
}

// 3.2: Not of a column is the opposite, and not what May does not say.
func TestMayNotColumn(t *testing.T) {
	for _, pair := range [][2]int{{api.Eq, api.Ne}, {api.Lt, api.Ge}, {api.Gt, api.Le}, {api.IsNull, api.NotNull}} {
		for _, codes := range [][2]int{pair, {pair[1], pair[0]}} {
			for _, c := range asks() {
				want := strings.Contains(c.may, " "+word[codes[1]]+" ")
				if got := stats.May(not(ofColumn(codes[0], c.v)), always(c.known)); got != want {
					t.Errorf("%s: May of not %s is %v", c.name, word[codes[0]], got)
				}
			}
		}
	}
}

// known tells 3 to 7, and nothing among them, of n, b of t, nothing of empty, and no values of all else.
func known(column string) api.Stats {
	switch column {
	case "n":
		return stats.Of(list(num(3), null, num(7)))
	case "t":
		return stats.Of(list(text("b")))
	case "empty":
		return stats.Of(list(null))
	}
	return api.Stats{}
}

func wantMay(t *testing.T, what string, c *api.Cond, want bool) {
	t.Helper()
	if got := stats.May(c, known); got != want {
		t.Errorf("May of %s is %v, want %v", what, got, want)
	}
}

// which is a condition that may be, whose Not may be, as it is asked for.
func which(so, notSo bool) *api.Cond {
	switch {
	case so && notSo:
		return leaf(api.Eq, "n", num(5))
	case so:
		return leaf(api.Eq, "t", text("b"))
	case notSo:
		return leaf(api.Ne, "t", text("b"))
	}
	return leaf(api.Eq, "empty", num(5))
}

// 3.2: May, of others, of all that these may be.
func TestMayOthers(t *testing.T) {
	bools := []bool{false, true}
	for bits := range 16 {
		a, na, b, nb := bools[bits&1], bools[bits>>1&1], bools[bits>>2&1], bools[bits>>3&1]
		left, right := which(a, na), which(b, nb)
		wantMay(t, "left", left, a)
		wantMay(t, "not left", not(left), na)
		wantMay(t, "not not left", not(not(left)), a)
		wantMay(t, "not not not left", not(not(not(left))), na)
		wantMay(t, "left and right", and(left, right), a && b)
		wantMay(t, "left or right", or(left, right), a || b)
		wantMay(t, "not (left and right)", not(and(left, right)), na || nb)
		wantMay(t, "not (left or right)", not(or(left, right)), na && nb)
		wantMay(t, "not not (left and right)", not(not(and(left, right))), a && b)
		wantMay(t, "not not (left or right)", not(not(or(left, right))), a || b)
		wantMay(t, "not (not left and right)", not(and(not(left), right)), a || nb)
		wantMay(t, "not (left or not right)", not(or(left, not(right))), na && b)
	}
}

// 3.2: nil, alone and in others.
func TestMayNil(t *testing.T) {
	yes, no := which(true, true), which(false, false)
	wantMay(t, "nil", nil, true)
	wantMay(t, "not nil", not(nil), false)
	wantMay(t, "not not nil", not(not(nil)), true)
	wantMay(t, "nil and yes", and(nil, yes), true)
	wantMay(t, "no and nil", and(no, nil), false)
	wantMay(t, "nil or no", or(nil, no), true)
	wantMay(t, "not (nil and no)", not(and(nil, no)), false)
	wantMay(t, "not (yes and nil)", not(and(yes, nil)), true)
	wantMay(t, "not (nil or yes)", not(or(nil, yes)), false)
}

// 3.2: just so: each part by itself, however little they go together.
func TestMayIsNoCleverer(t *testing.T) {
	wantMay(t, "n < 4 and n > 6", and(leaf(api.Lt, "n", num(4)), leaf(api.Gt, "n", num(6))), true)
	wantMay(t, "n = 5 and not n = 5", and(which(true, true), not(which(true, true))), true)
	wantMay(t, "n is null and n is not null", and(leaf(api.IsNull, "n", null), leaf(api.NotNull, "n", null)), true)
	wantMay(t, "n < 4 and none > 6", and(leaf(api.Lt, "n", num(4)), leaf(api.Gt, "none", num(6))), false)
}

// 3.2: a column is any text, and it alone is asked for.
func TestMayAsksItsColumn(t *testing.T) {
	for _, column := range []string{"", "a", "no 'name'", "\xff"} {
		get := func(asked string) api.Stats {
			if asked == column {
				return stats.Of(list(num(1)))
			}
			return stats.Of(list(num(2)))
		}
		for _, c := range []*api.Cond{leaf(api.Eq, column, num(1)), not(leaf(api.Ne, column, num(1)))} {
			if !stats.May(c, get) {
				t.Errorf("May of code %d, of a column %q, is false", c.Code, column)
			}
		}
	}
}

// 3.2: one may lie in 20 others (and the longest text of a condition makes it 23).
func TestMayDeep(t *testing.T) {
	for _, deep := range []int{20, 23} {
		nots, left, right := which(true, false), which(false, true), which(true, false)
		for range deep {
			nots = not(nots)
			left = or(left, which(false, true))
			right = and(which(true, true), right)
		}
		wantMay(t, "many nots", nots, deep%2 == 0)
		wantMay(t, "many ors", left, false)
		wantMay(t, "many ands", right, true)
	}
	shared := which(true, false)
	for range 19 {
		shared = and(shared, shared)
	}
	wantMay(t, "shared parts", shared, true)
	wantMay(t, "not, of shared parts", not(shared), false)
}

// P1, P2: whatever it is given, May ends, and does not panic.
func TestMayEnds(t *testing.T) {
	for code := range api.Not + 2 {
		c := &api.Cond{Code: code}
		c.Left, c.Right = c, c
		wantMay(t, "what goes round", c, false)
	}
	far, wide := which(true, true), which(true, true)
	for range 1 << 16 {
		far = not(far)
	}
	wantMay(t, "what lies too deep", far, false)
	for range 64 {
		wide = and(wide, wide)
	}
	wantMay(t, "what is shared too deep", wide, false)
}

// P1, P2: what has no code of a condition may not be, nor its Not.
func TestMayWithoutCode(t *testing.T) {
	for _, code := range []int{math.MinInt, -1, 0, api.Not + 1, 99, math.MaxInt} {
		c := leaf(code, "n", num(5))
		wantMay(t, "no code", c, false)
		wantMay(t, "not, of no code", not(c), false)
		wantMay(t, "not not, of no code", not(not(c)), false)
	}
	wantMay(t, "and, without parts", and(nil, nil), true)
	wantMay(t, "or, without parts", or(nil, nil), true)
}

// P1: a get that is nil, or panics, tells nothing.
func TestMayWithoutGet(t *testing.T) {
	fails := func(string) api.Stats { panic("no such column") }
	for _, get := range []func(string) api.Stats{nil, fails} {
		for code, w := range word {
			c := ofColumn(code, num(5))
			if stats.May(c, get) || stats.May(not(c), get) {
				t.Errorf("May of %s, or its Not, of what is not told, is true", w)
			}
		}
		if !stats.May(nil, get) {
			t.Error("May of nil, of what is not told, is false")
		}
	}
}

// P1: values that are not Right, and what is known of no values, are no reason to panic.
func TestWrongValues(t *testing.T) {
	wrong := list(null, num(1), text("a"), api.Value{Kind: -5, Num: 3, Text: "'"}, api.Value{Kind: 7}, api.Value{Num: 1, Text: "\xff"}, text(strings.Repeat("x", 1000)))
	if got := stats.Of(wrong).Count; got != len(wrong) {
		t.Errorf("Of is of %d values, not %d", got, len(wrong))
	}
	for _, a := range wrong {
		for _, b := range wrong {
			odd := api.Stats{Count: math.MaxInt, Nulls: math.MinInt, Min: a, Max: b}
			stats.Both(odd, odd)
			for code := -1; code <= api.Not+1; code++ {
				c := leaf(code, "a", b)
				stats.May(c, always(odd))
				stats.May(not(c), always(odd))
			}
		}
	}
}

// P4: a list stays as it is, also behind its length, and so does a condition; what is asked twice is told twice.
func TestKeepsOff(t *testing.T) {
	all := list(num(5), null, num(2), num(9), num(-9))
	was := slices.Clone(all)
	want := api.Stats{Count: 4, Nulls: 1, Min: num(2), Max: num(9)}
	for range 2 {
		if got := stats.Of(all[:4]); got != want {
			t.Errorf("Of is %+v, not %+v", got, want)
		}
	}
	if !slices.Equal(all, was) {
		t.Errorf("Of changed its list to %v", all)
	}
	fresh := func() *api.Cond {
		return not(and(not(which(true, false)), or(which(false, false), not(leaf(api.IsNull, "n", null)))))
	}
	c := fresh()
	wantMay(t, "a condition", c, true)
	wantMay(t, "it again", c, true)
	if !reflect.DeepEqual(c, fresh()) {
		t.Error("May has written into its condition")
	}
}

// die gives numbers that look drawn, the same each time.
type die uint64

func (d *die) n(most int) int {
	*d = *d*6364136223846793005 + 1442695040888963407
	return int(uint64(*d>>33) % uint64(most))
}

func drawnValue(d *die, kind int) api.Value {
	pool := list(null, num(math.MinInt64), num(-1), num(0), num(1), num(2), num(math.MaxInt64))
	if kind == api.Text {
		pool = list(null, text(""), text("a"), text("ab"), text("b"), text("~"))
	}
	return pool[d.n(len(pool))]
}

func drawnColumn(d *die, kind, rows int) []api.Value {
	var l []api.Value
	for range rows {
		l = append(l, drawnValue(d, kind))
	}
	return l
}

func drawnCond(d *die, deep int) *api.Cond {
	if deep > 0 && d.n(3) > 0 {
		switch d.n(3) {
		case 0:
			return not(drawnCond(d, deep-1))
		case 1:
			return and(drawnCond(d, deep-1), drawnCond(d, deep-1))
		}
		return or(drawnCond(d, deep-1), drawnCond(d, deep-1))
	}
	if d.n(20) == 0 {
		return nil
	}
	code := api.Eq + d.n(len(word))
	c := ofColumn(code, drawnValue(d, api.Int+d.n(2)))
	c.Column = []string{"n", "t"}[d.n(2)]
	return c
}

// 3.2: who is passed by had nothing: if a condition holds of a row, May said so of its column's values.
func TestNothingIsMissed(t *testing.T) {
	d := die(1)
	passed := 0
	for range 5000 {
		rows := d.n(4)
		columns := map[string][]api.Value{"n": drawnColumn(&d, api.Int, rows), "t": drawnColumn(&d, api.Text, rows)}
		c := drawnCond(&d, 3)
		may := stats.May(c, func(column string) api.Stats { return stats.Of(columns[column]) })
		for row := range rows {
			holds := value.Holds(c, func(column string) api.Value { return columns[column][row] })
			if holds == 1 && !may {
				t.Fatalf("a condition holds of row %d of %v, but May is false", row, columns)
			}
		}
		if !may {
			passed++
		}
	}
	if passed < 500 {
		t.Errorf("only %d were passed by", passed)
	}
}

// 3.1: Both of two lists is Of them together, wherever they are parted.
func TestBothIsOfTogether(t *testing.T) {
	d := die(2)
	for range 500 {
		l := append(drawnColumn(&d, api.Int, d.n(5)), drawnColumn(&d, api.Int+d.n(2), d.n(5))...)
		for cut := range len(l) + 1 {
			if got, want := stats.Both(stats.Of(l[:cut]), stats.Of(l[cut:])), stats.Of(l); got != want {
				t.Fatalf("%v, parted at %d: Both is %+v, not %+v", l, cut, got, want)
			}
		}
	}
}
