package number_test

import (
	"math"
	"strings"
	"testing"

	"millpond/number"
)

// 2.1: a number without a sign.
func TestAppend(t *testing.T) {
	for n, want := range map[uint64]string{
		0:              "\x00",
		1:              "\x01",
		127:            "\x7f",
		128:            "\x80\x01",
		300:            "\xac\x02",
		1<<14 - 1:      "\xff\x7f",
		1 << 14:        "\x80\x80\x01",
		1 << 63:        "\x80\x80\x80\x80\x80\x80\x80\x80\x80\x01",
		math.MaxUint64: "\xff\xff\xff\xff\xff\xff\xff\xff\xff\x01",
	} {
		if got := string(number.Append([]byte("x"), n)); got != "x"+want {
			t.Errorf("Append(%d) is %q, not %q", n, got, "x"+want)
		}
		if m, behind, ok := number.Read(want + "\x80y"); m != n || behind != "\x80y" || !ok {
			t.Errorf("Read(%q) is %d, %q, %v", want, m, behind, ok)
		}
	}
}

// 2.1: one with a sign.
func TestAppendSigned(t *testing.T) {
	for n, want := range map[int64]uint64{
		0: 0, -1: 1, 1: 2, -2: 3, 2: 4, 63: 126, -64: 127, 64: 128, -65: 129,
		math.MaxInt64: math.MaxUint64 - 1,
		math.MinInt64: math.MaxUint64,
	} {
		if got := string(number.AppendSigned(nil, n)); got != string(number.Append(nil, want)) {
			t.Errorf("AppendSigned(%d) is %q, not the number %d", n, got, want)
		}
		if got := number.Signed(want); got != n {
			t.Errorf("Signed(%d) is %d, not %d", want, got, n)
		}
	}
}

// 2.1: what no number is written as.
func TestReadWrong(t *testing.T) {
	for _, s := range []string{
		"",
		"\x80",
		"\xff\xff",
		"\x80\x00",
		"\x81\x80\x00",
		strings.Repeat("\xff", 9) + "\x02",
		strings.Repeat("\xff", 9) + "\x7f",
		strings.Repeat("\x80", 10) + "\x01",
		strings.Repeat("\x80", 100),
	} {
		if n, _, ok := number.Read(s); ok {
			t.Errorf("Read(%q) is %d", s, n)
		}
	}
}

// A Reader reads one thing behind the other, up to the end.
func TestReader(t *testing.T) {
	r := number.From("\xac\x02\x07\x02abc\x00")
	if n := r.Number(); n != 300 {
		t.Errorf("the first number is %d", n)
	}
	if n := r.UpTo(7); n != 7 {
		t.Errorf("the number of at most 7 is %d", n)
	}
	if s := r.Bytes(r.UpTo(math.MaxInt)); s != "ab" {
		t.Errorf("two bytes are %q", s)
	}
	if s := r.Bytes(0); s != "" {
		t.Errorf("no bytes are %q", s)
	}
	if s := r.Bytes(2); s != "c\x00" {
		t.Errorf("the last bytes are %q", s)
	}
	if r.Wrong() {
		t.Error("something is wrong with what is right")
	}
}

// A Reader notes what is wrong, and keeps to it whatever comes behind.
func TestReaderWrong(t *testing.T) {
	for name, read := range map[string]func(r *number.Reader){
		"too great a number":       func(r *number.Reader) { r.UpTo(4) },
		"a number where none is":   func(r *number.Reader) { r.UpTo(-1) },
		"too many bytes":           func(r *number.Reader) { r.Bytes(5) },
		"fewer bytes than none":    func(r *number.Reader) { r.Bytes(-1) },
		"a number behind the end":  func(r *number.Reader) { r.Bytes(4); r.Number() },
		"what the caller knows of": func(r *number.Reader) { r.Refuse() },
	} {
		r := number.From("\x05\x01\x02\x03")
		read(&r)
		if !r.Wrong() {
			t.Errorf("%s: nothing is wrong", name)
		}
		if n := r.UpTo(99); n != 0 || !r.Wrong() {
			t.Errorf("%s: a number behind it is %d, and wrong is %v", name, n, r.Wrong())
		}
	}
	r := number.From(strings.Repeat("\xff", 9) + "\x01")
	if n := r.UpTo(math.MaxInt); n != 0 || !r.Wrong() {
		t.Errorf("a number that is no int is %d", n)
	}
}
