package file

import (
	"math"
	"slices"
	"strconv"

	"millpond/api"
	"millpond/encode"
	"millpond/number"
	"millpond/schema"
	"millpond/stats"
)

// Write writes a file: how many columns, of each its number and its kind; how many groups, of each how many rows, and of each column its bytes, as a text. (Names, Must, Default are not written.) ErrArg: it is none that Make makes.
func Write(f File) (_ string, _ error) {
	if !made(f) {
		return "", api.ErrArg
	}
	b := number.Append(nil, uint64(len(f.Columns)))
	for _, c := range f.Columns {
		b = number.Append(b, uint64(c.ID))
		b = number.Append(b, uint64(c.Kind))
	}
	b = number.Append(b, uint64(len(f.Groups)))
	for _, g := range f.Groups {
		b = appendGroup(b, g)
	}
	return string(b), nil
}

func appendGroup(b []byte, g Group) []byte {
	b = number.Append(b, uint64(g.Rows))
	for _, s := range g.Bytes {
		b = number.Append(b, uint64(len(s)))
		b = append(b, s...)
	}
	return b
}

// made says whether a file is as Make makes it, but for what is not written: Make of its rows tells.
func made(f File) bool {
	l := plainColumns(f.Columns)
	if !schema.Right(l, mostID+1) { // Make says so too, but first all would be read
		return false
	}
	var rows [][]api.Value
	for which := range f.Groups {
		part, err := f.Read(which, l)
		if err != nil {
			return false
		}
		rows = append(rows, part...)
	}
	again, err := Make(l, rows)
	return err == nil && slices.EqualFunc(f.Groups, again.Groups, same)
}

// plainColumns are columns of the same numbers and kinds, which may be called as they are, and may be nothing.
func plainColumns(l []api.Column) []api.Column {
	var plain []api.Column
	for i, c := range l {
		plain = append(plain, api.Column{ID: c.ID, Name: "c" + strconv.Itoa(i), Kind: c.Kind})
	}
	return plain
}

func same(a, b Group) bool {
	return a.Rows == b.Rows && slices.Equal(a.Stats, b.Stats) && slices.Equal(a.Bytes, b.Bytes)
}

// Parse reads a file, as Write writes it. ErrForm.
func Parse(s string) (_ File, _ error) {
	r := number.From(s)
	f := read(&r)
	if r.Wrong() {
		return File{}, api.ErrForm
	}
	// What was read may yet be none that Make makes, or have something behind it: only writing it again tells.
	if again, err := Write(f); err != nil || again != s {
		return File{}, api.ErrForm
	}
	return f, nil
}

// read is a file that may not be: nothing is looked at but how far to go.
func read(r *number.Reader) File {
	var f File
	for range r.UpTo(api.MaxColumns) {
		id := r.UpTo(mostID)
		f.Columns = append(f.Columns, api.Column{ID: id, Kind: r.UpTo(api.Text)})
	}
	for range r.UpTo(api.MaxRows) { // no group is without rows
		f.Groups = append(f.Groups, readGroup(r, f.Columns))
	}
	return f
}

func readGroup(r *number.Reader, l []api.Column) Group {
	g := Group{Rows: r.UpTo(api.GroupRows)}
	for _, c := range l {
		s := r.Bytes(r.UpTo(math.MaxInt))
		values, _ := encode.Decode(c.Kind, s) // bytes that are no column's are not what Make makes
		g.Stats = append(g.Stats, stats.Of(values))
		g.Bytes = append(g.Bytes, s)
	}
	return g
}
