package ask

import (
	"strconv"

	"millpond/api"
	"millpond/schema"
	"millpond/value"
)

// maxLimit is how many rows may be asked for at most.
const maxLimit = 1_000_000

// notNames are the words of which texts are made: a column that is called so could not be told from them.
var notNames = [...]string{"and", "is", "not", "null", "or", "by", "desc", "limit", "order", "select", "where"}

// mayName says whether a word may be a column's name, but for how long it is.
func mayName(word string) bool {
	for _, other := range notNames {
		if word == other {
			return false
		}
	}
	return true
}

// isFunction says whether a word tells what may come of a column.
func isFunction(word string) bool {
	switch word {
	case "count", "max", "min", "sum":
		return true
	}
	return false
}

// reader goes from token to token, and throws what is wrong with the first one that may not be.
type reader struct {
	tokens []token // the one that is looked at first; that of the text's end is never gone past
}

// token is the one that is looked at.
func (r *reader) token() token { return r.tokens[0] }

// pass goes on to the next token.
func (r *reader) pass() {
	if len(r.tokens) > 1 {
		r.tokens = r.tokens[1:]
	}
}

// takes goes past a token, if it is the one that is looked at.
func (r *reader) takes(kind int, text string) bool {
	t := r.token()
	if t.kind != kind || t.text != text {
		return false
	}
	r.pass()
	return true
}

// needs goes past a token, which must be the one that is looked at.
func (r *reader) needs(kind int, text string) {
	if !r.takes(kind, text) {
		throw(api.ErrForm, r.token().place)
	}
}

// cond reads a condition that stands in so many not and ( .
func (r *reader) cond(deep int) *api.Cond {
	c := r.all(deep)
	for r.takes(aWord, "or") {
		c = &api.Cond{Code: api.Or, Left: c, Right: r.all(deep)}
	}
	return c
}

func (r *reader) all(deep int) *api.Cond {
	c := r.one(deep)
	for r.takes(aWord, "and") {
		c = &api.Cond{Code: api.And, Left: c, Right: r.one(deep)}
	}
	return c
}

func (r *reader) one(deep int) *api.Cond {
	t := r.token()
	if deep > api.MaxDepth && t.kind != atEnd { // at the end no token is too deep: one is missing
		throw(api.ErrLimit, t.place)
	}
	if r.takes(aWord, "not") {
		return &api.Cond{Code: api.Not, Left: r.one(deep + 1)}
	}
	if r.takes(aMark, "(") {
		c := r.cond(deep + 1)
		r.needs(aMark, ")")
		return c
	}
	return r.leaf()
}

// leaf reads a condition that has no parts.
func (r *reader) leaf() *api.Cond {
	c := api.Cond{Column: r.name()}
	if r.takes(aWord, "is") {
		c.Code = api.IsNull
		if r.takes(aWord, "not") {
			c.Code = api.NotNull
		}
		r.needs(aWord, "null")
		return &c
	}
	c.Code = r.code()
	c.Value = r.value()
	return &c
}

func (r *reader) name() string {
	t := r.token()
	if t.kind != aWord || !mayName(t.text) {
		throw(api.ErrForm, t.place)
	}
	if !schema.Name(t.text) {
		throw(api.ErrLimit, t.place)
	}
	r.pass()
	return t.text
}

// code reads what is asked of a column and a value.
func (r *reader) code() int {
	t := r.token()
	if t.code == 0 {
		throw(api.ErrForm, t.place)
	}
	r.pass()
	return t.code
}

func (r *reader) value() api.Value {
	if r.takes(aWord, "null") {
		return api.Value{}
	}
	t := r.token()
	if t.kind != aText {
		return api.Value{Kind: api.Int, Num: r.number()}
	}
	v := api.Value{Kind: api.Text, Text: t.text}
	if !value.Right(v) {
		throw(api.ErrLimit, t.place)
	}
	r.pass()
	return v
}

func (r *reader) number() int64 {
	t := r.token()
	if t.kind != aNumber {
		throw(api.ErrForm, t.place)
	}
	n, err := strconv.ParseInt(t.text, 10, 64)
	if err != nil { // a token of this kind is a number, but perhaps one of more than 64 bits
		throw(api.ErrLimit, t.place)
	}
	r.pass()
	return n
}

// upTo reads a number from 1 on.
func (r *reader) upTo(most int) int {
	place := r.token().place
	n := r.number()
	if n < 1 || n > int64(most) {
		throw(api.ErrLimit, place)
	}
	return int(n)
}

func (r *reader) query() Query {
	var q Query
	r.needs(aWord, "select")
	q.Items = several(r, r.item)
	if r.takes(aWord, "where") {
		q.Where = r.cond(0)
	}
	if r.takes(aWord, "by") {
		q.By = several(r, r.name)
	}
	if r.takes(aWord, "order") {
		q.Order = several(r, func() Order { return r.order(len(q.Items)) })
	}
	if r.takes(aWord, "limit") {
		q.Limit = r.upTo(maxLimit)
	}
	return q
}

// several reads one thing, and more of them, with commas between.
func several[T any](r *reader, read func() T) []T {
	l := []T{read()}
	for r.takes(aMark, ",") {
		l = append(l, read())
	}
	return l
}

// item reads a column, or what comes of one: a function's name alone is a column's, too.
func (r *reader) item() Item {
	name := r.name()
	if !isFunction(name) || !r.takes(aMark, "(") {
		return Item{Column: name}
	}
	item := Item{Fn: name, Column: "*"}
	if name != "count" || !r.takes(aMark, "*") {
		item.Column = r.name()
	}
	r.needs(aMark, ")")
	return item
}

// order reads by which of so many items rows stand.
func (r *reader) order(items int) Order {
	n := r.upTo(items)
	return Order{Which: n - 1, Desc: r.takes(aWord, "desc")}
}
