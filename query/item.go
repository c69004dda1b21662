package query

import (
	"millpond/api"
	"millpond/ask"
	"millpond/schema"
	"millpond/stats"
)

// placed is an item whose column is told by where it stands (below 0: all of them), so that it is looked for once, not of each row.
type placed struct {
	fn    string
	place int
}

func places(l []api.Column, items []ask.Item) []placed {
	var found []placed
	for _, item := range items {
		found = append(found, placed{fn: item.Fn, place: schema.Find(l, item.Column)})
	}
	return found
}

// ofParts are the rows that come of parts, one of each.
func ofParts(parts [][][]api.Value, items []placed) [][]api.Value {
	told := make([][]api.Value, 0, len(parts))
	for _, part := range parts {
		told = append(told, ofPart(part, items))
	}
	return told
}

func ofPart(part [][]api.Value, items []placed) []api.Value {
	row := make([]api.Value, 0, len(items))
	for _, item := range items {
		row = append(row, ofItem(part, item))
	}
	return row
}

// ofItem is what comes of an item, of the rows of a part.
func ofItem(part [][]api.Value, item placed) api.Value {
	switch {
	case item.fn == "":
		return at(part[0], item.place) // no part without rows has such an item, and all rows of one are the same in it
	case item.place < 0:
		return number(int64(len(part)))
	}
	return comes(item.fn, column(part, item.place))
}

// column are the values that rows have at a place.
func column(rows [][]api.Value, place int) []api.Value {
	values := make([]api.Value, 0, len(rows))
	for _, row := range rows {
		values = append(values, at(row, place))
	}
	return values
}

// comes is what a function makes of a column's values, of which those that are nothing are passed by.
func comes(fn string, values []api.Value) api.Value {
	known := stats.Of(values)
	some := known.Count - known.Nulls
	switch {
	case fn == "count":
		return number(int64(some))
	case fn == "max":
		return known.Max
	case fn == "min":
		return known.Min
	case fn == "sum" && some > 0:
		return number(sum(values))
	}
	return api.Value{}
}

// sum may add what is nothing, too: its number is 0.
func sum(values []api.Value) int64 {
	var n int64
	for _, v := range values {
		n += v.Num
	}
	return n
}

func number(n int64) api.Value { return api.Value{Kind: api.Int, Num: n} }
