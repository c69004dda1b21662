package scan_test

import (
	"fmt"
	"reflect"
	"slices"
	"strings"
	"testing"

	"millpond/api"
	"millpond/bucket"
	"millpond/file"
	"millpond/plain"
	"millpond/scan"
)

var null = api.Value{}

func num(n int64) api.Value { return api.Value{Kind: api.Int, Num: n} }

func text(s string) api.Value { return api.Value{Kind: api.Text, Text: s} }

func row(l ...api.Value) []api.Value { return l }

// numbers is a column of numbers.
func numbers(id int, name string) api.Column { return api.Column{ID: id, Name: name, Kind: api.Int} }

// words is a column of texts.
func words(id int, name string) api.Column { return api.Column{ID: id, Name: name, Kind: api.Text} }

// counted are rows of one number each, from first on.
func counted(first, n int) [][]api.Value {
	var l [][]api.Value
	for i := range n {
		l = append(l, row(num(int64(first+i))))
	}
	return l
}

// written are the bytes of a file.
func written(t *testing.T, l []api.Column, rows [][]api.Value) string {
	t.Helper()
	f, err := file.Make(l, rows)
	if err != nil {
		t.Fatalf("Make: %v", err)
	}
	s, err := file.Write(f)
	if err != nil {
		t.Fatalf("Write: %v", err)
	}
	return s
}

// lay puts a thing into a bucket.
func lay(t *testing.T, b *bucket.Bucket, key, s string) {
	t.Helper()
	if err := b.Put(key, s); err != nil {
		t.Fatalf("Put at %q: %v", key, err)
	}
}

// all is what lies in a bucket.
func all(b *bucket.Bucket) string {
	var s strings.Builder
	for _, key := range b.List("") {
		thing, _ := b.Get(key)
		fmt.Fprintf(&s, "%q %q\n", key, thing)
	}
	return s.String()
}

// wantErr says whether an error is just that Errno, at no place.
func wantErr(t *testing.T, what string, err error, want api.Errno) {
	t.Helper()
	if e, place := plain.Place(err); e != want || place != -1 {
		t.Errorf("%s: error %d at %d, not %d at no place", what, e, place, want)
	}
}

// 10.1: Key is data/ and the path, whatever that is.
func TestKey(t *testing.T) {
	long := strings.Repeat("p", 1000)
	for path, want := range map[string]string{
		"f": "data/f", "t_0": "data/t_0", "": "data/", "data/f": "data/data/f", "/": "data//", " A'\n": "data/ A'\n", "\x00\xff": "data/\x00\xff", "é": "data/é", long: "data/" + long,
	} {
		if got := scan.Key(path); got != want {
			t.Errorf("Key of %q is %q, not %q", path, got, want)
		}
	}
}

// 10.1: Open is the File of which the bytes that lie there are written; its columns have numbers and kinds alone.
func TestOpen(t *testing.T) {
	l := []api.Column{{ID: 3, Name: "a", Kind: api.Int, Must: true, Default: num(9)}, words(1, "b")}
	rows := [][]api.Value{row(num(7), text("x")), row(num(-1), null), row(num(7), text(""))}
	b := &bucket.Bucket{}
	lay(t, b, "data/f", written(t, l, rows))
	lay(t, b, "data/g", written(t, l[1:], [][]api.Value{row(text("y"))}))
	lay(t, b, "data/", written(t, l[:1], counted(1, api.MaxRows)))
	f, err := scan.Open(b, "f")
	wantErr(t, "Open of f", err, api.OK)
	want := []file.Group{{
		Rows:  3,
		Stats: []api.Stats{{Count: 3, Min: num(-1), Max: num(7)}, {Count: 3, Nulls: 1, Min: text(""), Max: text("x")}},
		Bytes: []string{"\x03\x00\x00\x0e\x01\x0e", "\x03\x02\x00\x01x\x00"},
	}}
	if !slices.Equal(f.Columns, []api.Column{{ID: 3, Kind: api.Int}, {ID: 1, Kind: api.Text}}) || !reflect.DeepEqual(f.Groups, want) {
		t.Errorf("Open of f is %+v", f)
	}
	for path, rows := range map[string]int{"f": 3, "g": 1, "": api.MaxRows} {
		f, err := scan.Open(b, path)
		wantErr(t, fmt.Sprintf("Open of %q", path), err, api.OK)
		if f.Rows() != rows {
			t.Errorf("Open of %q has %d rows, not %d", path, f.Rows(), rows)
		}
	}
}

// wantNoFile says whether Open tells just that error, and no File beside it.
func wantNoFile(t *testing.T, b *bucket.Bucket, path string, want api.Errno) {
	t.Helper()
	f, err := scan.Open(b, path)
	wantErr(t, fmt.Sprintf("Open of %q", path), err, want)
	if !reflect.DeepEqual(f, file.File{}) {
		t.Errorf("Open of %q is %+v beside an error", path, f)
	}
}

// 10.1: nothing lies at the Key, though it may lie elsewhere.
func TestOpenMissing(t *testing.T) {
	s := written(t, []api.Column{numbers(1, "a")}, counted(1, 1))
	b := &bucket.Bucket{}
	for _, key := range []string{"g", "data/f", "data/g0", "Data/g", "data//g", "log/000001"} {
		lay(t, b, key, s)
	}
	for _, path := range []string{"", "g", "F", "f ", "data/f", "/f", "log/000001", "../log/000001", strings.Repeat("p", 1000)} {
		wantNoFile(t, b, path, api.ErrMissing)
	}
	wantNoFile(t, &bucket.Bucket{}, "f", api.ErrMissing)
	wantNoFile(t, nil, "f", api.ErrMissing)
	if err := b.Delete("data/f"); err != nil {
		t.Fatal(err)
	}
	wantNoFile(t, b, "f", api.ErrMissing)
}

// notFiles are bytes that Write never tells.
func notFiles(t *testing.T) []string {
	s := written(t, []api.Column{numbers(1, "a"), words(2, "b")}, [][]api.Value{row(num(7), text("x")), row(num(8), null)})
	return []string{
		"", "x", "\x00", "\xff", s[:len(s)-1], s[1:], s + "\x00", s + s, "\x01\x01\x01\x00", "\x01\x00\x01\x01\x01\x04\x01\x00\x00\x0e", "\x01\x01\x03\x01\x01\x04\x01\x00\x00\x0e",
		"\x01\x01\x01\x01\x01\x05\x01\x00\x00\x8e\x00", "\x01\x01\x01\x01\x02\x04\x01\x00\x00\x0e", "\x01\x01\x01\x02\x01\x04\x01\x00\x00\x0e\x01\x04\x01\x00\x00\x0e", strings.Repeat("\xff", 100),
	}
}

// 10.1: what lies there is no File.
func TestOpenForm(t *testing.T) {
	for _, s := range notFiles(t) {
		b := &bucket.Bucket{}
		lay(t, b, "data/f", s)
		wantNoFile(t, b, "f", api.ErrForm)
	}
}

// P2, P4: Open changes nothing, uses no fault up, and what it tells is the caller's.
func TestOpenKeepsOff(t *testing.T) {
	b := &bucket.Bucket{}
	lay(t, b, "data/f", written(t, []api.Column{numbers(1, "a")}, counted(1, 7)))
	lay(t, b, "data/g", "x")
	b.Faults([]int{bucket.Lost})
	was := all(b)
	f, _ := scan.Open(b, "f")
	told := fmt.Sprint(f)
	f.Columns[0].ID, f.Groups[0].Rows, f.Groups[0].Stats[0].Count, f.Groups[0].Bytes[0] = 9, 9, 9, "spoilt"
	if again, err := scan.Open(b, "f"); fmt.Sprint(again) != told || err != nil {
		t.Errorf("Open is %v, %v, not %s, once the first answer is written into", again, err, told)
	}
	wantNoFile(t, b, "g", api.ErrForm)
	wantNoFile(t, b, "h", api.ErrMissing)
	if now := all(b); now != was {
		t.Errorf("in the bucket lies %s, not %s", now, was)
	}
	wantErr(t, "Put", b.Put("k", "x"), api.ErrDevice)
}
