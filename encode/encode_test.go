package encode_test

import (
	"math"
	"slices"
	"strings"
	"testing"

	"millpond/api"
	"millpond/encode"
)

var null = api.Value{}

func num(n int64) api.Value { return api.Value{Kind: api.Int, Num: n} }

func text(s string) api.Value { return api.Value{Kind: api.Text, Text: s} }

func nums(l ...int64) []api.Value {
	var out []api.Value
	for _, n := range l {
		out = append(out, num(n))
	}
	return out
}

func texts(l ...string) []api.Value {
	var out []api.Value
	for _, s := range l {
		out = append(out, text(s))
	}
	return out
}

func times(n int, l ...api.Value) []api.Value {
	return slices.Repeat(l, n)
}

// column is one whose bytes were worked out by hand.
type column struct {
	name  string
	kind  int
	l     []api.Value
	bytes string
}

func columns() []column {
	most := strings.Repeat("m", api.MaxLetters)
	return []column{
		{"of the document's examples", api.Int, []api.Value{num(7), null, num(7)}, "\x03\x02\x00\x0e\x0e"},

		{"without numbers", api.Int, nil, "\x00\x00"},
		{"without texts", api.Text, nil, "\x00\x00"},
		{"of nothing alone", api.Int, times(3, null), "\x03\x07\x00"},
		{"of nothing alone, of texts", api.Text, times(8, null), "\x08\xff\x00"},

		{"eight", api.Int, append(times(7, num(0)), null), "\x08\x80\x01\x07\x00"},
		{"nine: another byte of bits", api.Int, append(times(8, num(0)), null), "\x09\x00\x01\x01\x08\x00"},
		{"a bit here and there", api.Text, []api.Value{null, text("a"), null, null, text("")}, "\x05\x0d\x00\x01a\x00"},
		{"as long as can be", api.Int, times(api.MaxRows, null), "\x3c\xff\xff\xff\xff\xff\xff\xff\x0f\x00"},

		{"a number of one byte", api.Int, nums(63), "\x01\x00\x00\x7e"},
		{"a number of two bytes", api.Int, nums(64), "\x01\x00\x00\x80\x01"},
		{"a number of one byte below 0", api.Int, nums(-64), "\x01\x00\x00\x7f"},
		{"a number of two bytes below 0", api.Int, nums(-65), "\x01\x00\x00\x81\x01"},
		{"the greatest number", api.Int, nums(math.MaxInt64), "\x01\x00\x00\xfe\xff\xff\xff\xff\xff\xff\xff\xff\x01"},
		{"the least number", api.Int, nums(math.MinInt64), "\x01\x00\x00\xff\xff\xff\xff\xff\xff\xff\xff\xff\x01"},
		{"no letters", api.Text, texts(""), "\x01\x00\x00\x00"},
		{"as many letters as can be", api.Text, texts(most), "\x01\x00\x00\x28" + most},

		{"one by one, which is no longer than runs", api.Int, nums(1, 1), "\x02\x00\x00\x02\x02"},
		{"one by one, which is no longer than steps", api.Int, nums(3, 4, 3), "\x03\x00\x00\x06\x08\x06"},
		{"runs", api.Int, nums(5, 5, 5), "\x03\x00\x01\x03\x0a"},
		{"runs, one of them short", api.Int, nums(5, 5, 5, 5, 6), "\x05\x00\x01\x04\x0a\x01\x0c"},
		{"runs of texts", api.Text, texts("ab", "ab", "c", "c", "c"), "\x05\x00\x01\x02\x02ab\x03\x01c"},
		{"a run over nothing", api.Int, []api.Value{num(5), null, num(5), null, null, num(5)}, "\x06\x1a\x01\x03\x0a"},
		{"which, in the order in which they come first", api.Text, texts("bbb", "aaa", "bbb", "aaa"), "\x04\x00\x02\x02\x03bbb\x03aaa\x00\x01\x00\x01"},
		{"which, of numbers", api.Int, nums(-9999, 9999, -9999, 9999, 9999), "\x05\x00\x02\x02\x9d\x9c\x01\x9e\x9c\x01\x00\x01\x00\x01\x01"},
		{"runs, which are no longer than which", api.Text, texts("abc", "abc"), "\x02\x00\x01\x02\x03abc"},
		{"steps", api.Int, nums(1000, 1001, 1003, 1002), "\x04\x00\x03\xd0\x0f\x02\x04\x01"},
		{"steps that wrap", api.Int, nums(math.MaxInt64, math.MinInt64, math.MaxInt64), "\x03\x00\x03\xfe\xff\xff\xff\xff\xff\xff\xff\xff\x01\x02\x01"},
		{"steps over nothing", api.Int, []api.Value{null, num(100), null, num(101)}, "\x04\x05\x03\xc8\x01\x02"},
		{"one by one, which is shorter than which and steps", api.Int, nums(100, 0, 100, 0), "\x04\x00\x00\xc8\x01\x00\xc8\x01\x00"},
		{"which, which is no longer than steps", api.Int, nums(9000, 9100, 9000, 9100, 9000, 9100), "\x06\x00\x02\x02\xd0\x8c\x01\x98\x8e\x01\x00\x01\x00\x01\x00\x01"},
		{"steps, which are shorter than which by one byte", api.Int, nums(9000, 9100, 9000, 9100, 9000), "\x05\x00\x03\xd0\x8c\x01\xc8\x01\xc7\x01\xc8\x01\xc7\x01"},
	}
}

// 2.1: Encode.
func TestEncode(t *testing.T) {
	for _, c := range columns() {
		if s, err := encode.Encode(c.kind, c.l); s != c.bytes || err != nil {
			t.Errorf("%s: Encode is %q, %v, not %q", c.name, s, err, c.bytes)
		}
	}
}

// 2.1: Decode.
func TestDecode(t *testing.T) {
	for _, c := range columns() {
		if l, err := encode.Decode(c.kind, c.bytes); !slices.Equal(l, c.l) || err != nil {
			t.Errorf("%s: Decode is %v, %v, not %v", c.name, l, err, c.l)
		}
	}
}

// 2.1, P2, P3: what Encode may not be given.
func TestEncodeWrong(t *testing.T) {
	for _, c := range []struct {
		name string
		kind int
		l    []api.Value
		want api.Errno
	}{
		{"of kind Null", api.Null, nil, api.ErrArg},
		{"of kind Null, with nothing", api.Null, times(1, null), api.ErrArg},
		{"of no kind", api.Text + 1, nil, api.ErrArg},
		{"of no kind below 0", -1, nil, api.ErrArg},
		{"a text among numbers", api.Int, []api.Value{num(1), null, text("a")}, api.ErrArg},
		{"a number among texts", api.Text, []api.Value{text("a"), num(1)}, api.ErrArg},
		{"a value of no kind", api.Int, []api.Value{{Kind: 3}}, api.ErrArg},
		{"nothing that is something", api.Int, []api.Value{{Num: 1}}, api.ErrArg},
		{"a number that is a text, too", api.Int, []api.Value{{Kind: api.Int, Text: "a"}}, api.ErrArg},
		{"a text that is a number, too", api.Text, []api.Value{{Kind: api.Text, Num: 1}}, api.ErrArg},
		{"too many letters", api.Text, texts(strings.Repeat("m", api.MaxLetters+1)), api.ErrArg},
		{"a letter that may not be", api.Text, texts("it's"), api.ErrArg},
		{"too many values", api.Int, times(api.MaxRows+1, num(1)), api.ErrLimit},
		{"too many nothings", api.Text, times(api.MaxRows+1, null), api.ErrLimit},
		{"too many, and of no kind", 3, times(api.MaxRows+1, null), api.ErrArg},
		{"too many, the last one of another kind", api.Int, append(times(api.MaxRows, num(1)), text("a")), api.ErrArg},
	} {
		if s, err := encode.Encode(c.kind, c.l); s != "" || err != error(c.want) {
			t.Errorf("%s: Encode is %q, %v, not %v", c.name, s, err, c.want)
		}
	}
}

// 2.1, P1, P2, P3: bytes that Encode tells of nothing.
func TestDecodeWrong(t *testing.T) {
	huge := strings.Repeat("\xff", 9) + "\x01"
	for _, c := range []struct {
		name  string
		kind  int
		bytes string
	}{
		{"of kind Null", api.Null, "\x00\x00"},
		{"of no kind", 3, "\x00\x00"},
		{"of no kind below 0", -1, "\x00\x00"},
		{"numbers as texts", api.Text, "\x01\x00\x00\x0e"},
		{"texts as numbers", api.Int, "\x01\x00\x00\x01a"},

		{"no bytes", api.Int, ""},
		{"no bits", api.Int, "\x01"},
		{"no way", api.Int, "\x00"},
		{"no way behind bits", api.Int, "\x01\x01"},
		{"no value", api.Int, "\x01\x00\x00"},
		{"half a number", api.Int, "\x01\x00\x00\x80"},
		{"half a text", api.Text, "\x01\x00\x00\x02a"},
		{"one byte more", api.Int, "\x01\x00\x00\x0e\x00"},
		{"one byte more behind nothing", api.Int, "\x00\x00\x00"},

		{"too many values", api.Int, "\x3d" + strings.Repeat("\xff", 7) + "\x1f\x00"},
		{"far too many values", api.Int, huge + "\x00\x00"},
		{"bits that are not filled up with 0", api.Int, "\x01\x03\x00"},
		{"another way", api.Int, "\x01\x00\x04\x0e"},
		{"a way above a byte's half", api.Int, "\x01\x00\xff\x0e"},
		{"a number with a nought at its end", api.Int, "\x01\x00\x00\x8e\x00"},
		{"a number beyond 64 bits", api.Int, "\x01\x00\x00" + strings.Repeat("\xff", 9) + "\x02"},
		{"a number of too many bytes", api.Int, "\x01\x00\x00" + strings.Repeat("\x80", 10) + "\x01"},
		{"a count with a nought at its end", api.Int, "\x81\x00\x00\x00\x0e"},
		{"a text of too many letters", api.Text, "\x01\x00\x00\x29" + strings.Repeat("m", 41)},
		{"a text of far too many letters", api.Text, "\x01\x00\x00" + huge + "a"},
		{"a text with a letter that may not be", api.Text, "\x01\x00\x00\x01'"},
		{"a text with a byte that may not be", api.Text, "\x01\x00\x00\x01\x80"},

		{"one by one, though runs are shorter", api.Int, "\x03\x00\x00\x0a\x0a\x0a"},
		{"runs, though one by one is no longer", api.Int, "\x02\x00\x01\x02\x02"},
		{"runs that are not as long as can be", api.Int, "\x04\x00\x01\x02\x0a\x02\x0a"},
		{"a run of none", api.Int, "\x03\x00\x01\x00\x0a\x03\x0a"},
		{"a run of none, again and again", api.Int, "\x03\x00\x01" + strings.Repeat("\x00", 1000)},
		{"a run of too many", api.Int, "\x03\x00\x01\x04\x0a"},
		{"a run of far too many", api.Int, "\x03\x00\x01" + huge + "\x0a"},
		{"a run of too few", api.Int, "\x03\x00\x01\x02\x0a"},
		{"no run", api.Int, "\x00\x01"},
		{"which, though one by one is no longer", api.Int, "\x02\x00\x02\x01\x02\x00\x00"},
		{"which, not in the order in which they come first", api.Text, "\x04\x00\x02\x02\x03aaa\x03bbb\x01\x00\x01\x00"},
		{"which, one of them twice", api.Text, "\x04\x00\x02\x02\x05aaaaa\x05aaaaa\x00\x01\x00\x01"},
		{"which, one of them never", api.Text, "\x04\x00\x02\x03\x05aaaaa\x05bbbbb\x00\x00\x01\x00\x01"},
		{"which, beyond what there is", api.Text, "\x04\x00\x02\x02\x03bbb\x03aaa\x00\x01\x00\x02"},
		{"which, far beyond what there is", api.Text, "\x04\x00\x02\x02\x03bbb\x03aaa\x00\x01\x00" + huge},
		{"which, of none", api.Text, "\x01\x00\x02\x00\x00"},
		{"which, of too many", api.Text, "\x01\x00\x02\x02\x01a\x01b\x00"},
		{"which, of far too many", api.Text, "\x01\x00\x02" + huge + "\x01a\x00"},
		{"which, of no value", api.Int, "\x00\x02\x00"},
		{"steps, though one by one is no longer", api.Int, "\x02\x00\x03\x02\x00"},
		{"steps of texts", api.Text, "\x04\x00\x03\xd0\x0f\x02\x04\x01"},
		{"no steps of texts", api.Text, "\x00\x03"},
		{"too few steps", api.Int, "\x04\x00\x03\xd0\x0f\x02\x04"},
	} {
		if l, err := encode.Decode(c.kind, c.bytes); l != nil || err != error(api.ErrForm) {
			t.Errorf("%s: Decode(%q) is %v, %v", c.name, c.bytes, l, err)
		}
	}
}

// die gives numbers that look drawn, the same each time.
type die uint64

func (d *die) n(most int) int {
	*d = *d*6364136223846793005 + 1442695040888963407
	return int(uint64(*d>>33) % uint64(most))
}

func drawn(d *die, kind int) []api.Value {
	pool := []api.Value{null, num(0), num(1), num(-1), num(1000), num(1001), num(math.MaxInt64), num(math.MinInt64)}
	if kind == api.Text {
		pool = []api.Value{null, text(""), text("a"), text("b"), text("abcdef"), text("ghijkl"), text(strings.Repeat("m", api.MaxLetters))}
	}
	pool = pool[:1+d.n(len(pool))]
	var l []api.Value
	for most := d.n(api.MaxRows + 1); len(l) < most; {
		l = append(l, times(min(most-len(l), 1+d.n(4)), pool[d.n(len(pool))])...)
	}
	return l
}

// 2.1: what is written is read as it was; other bytes are read only if they are written so.
func TestThereAndBack(t *testing.T) {
	d := die(1)
	for range 2000 {
		kind := api.Int + d.n(2)
		l := drawn(&d, kind)
		s, err := encode.Encode(kind, l)
		if err != nil {
			t.Fatalf("Encode(%d, %v) is %v", kind, l, err)
		}
		if back, err := encode.Decode(kind, s); !slices.Equal(back, l) || err != nil {
			t.Fatalf("Decode(%d, %q) is %v, %v, not %v", kind, s, back, err, l)
		}
		for cut := range len(s) {
			if back, err := encode.Decode(kind, s[:cut]); err != error(api.ErrForm) {
				t.Fatalf("Decode(%d, %q) is %v, %v", kind, s[:cut], back, err)
			}
		}
		bent := []byte(s)
		bent[d.n(len(bent))] ^= byte(1 << d.n(8))
		back, err := encode.Decode(kind, string(bent))
		if again, wrong := encode.Encode(kind, back); err == nil && (again != string(bent) || wrong != nil) {
			t.Fatalf("Decode(%d, %q) is %v, which is written %q, %v", kind, bent, back, again, wrong)
		} else if err != nil && err != error(api.ErrForm) {
			t.Fatalf("Decode(%d, %q) is %v", kind, bent, err)
		}
	}
}

// P4: a list that is handed in stays as it is, also behind its length; what comes out is fresh.
func TestKeepsOff(t *testing.T) {
	all := []api.Value{null, num(5), null, num(5), num(5), num(9)}
	was := slices.Clone(all)
	s, err := encode.Encode(api.Int, all[:4])
	if err != nil || !slices.Equal(all, was) {
		t.Fatalf("Encode changed its list to %v (%v)", all, err)
	}
	first, _ := encode.Decode(api.Int, s)
	first[0] = num(1)
	if second, err := encode.Decode(api.Int, s); !slices.Equal(second, was[:4]) || err != nil {
		t.Errorf("Decode is %v, %v after its first answer was written into", second, err)
	}
}
