package number_test

import (
	"math"
	"strings"
	"testing"

	"millpond/number"
)

// 2.1: a number without a sign.
func TestAppend(t *testing.T) {
	for n, want := range map[uint64]string{
		0:              "\x00",
		1:              "\x01",
		127:            "\x7f",
		128:            "\x80\x01",
		300:            "\xac\x02",
		1<<14 - 1:      "\xff\x7f",
		1 << 14:        "\x80\x80\x01",
		1 << 63:        "\x80\x80\x80\x80\x80\x80\x80\x80\x80\x01",
		math.MaxUint64: "\xff\xff\xff\xff\xff\xff\xff\xff\xff\x01",
	} {
		if got := string(number.Append([]byte("x"), n)); got != "x"+want {
			t.Errorf("Append(%d) is %q, not %q", n, got, "x"+want)
		}
		if m, behind, ok := number.Read(want + "\x80y"); m != n || behind != "\x80y" || !ok {
			t.Errorf("Read(%q) is %d, %q, %v", want, m, behind, ok)
		}
	}
}

// 2.1: one with a sign.
func TestAppendSigned(t *testing.T) {
	for n, want := range map[int64]uint64{
		0: 0, -1: 1, 1: 2, -2: 3, 2: 4, 63: 126, -64: 127, 64: 128, -65: 129,
		math.MaxInt64: math.MaxUint64 - 1,
		math.MinInt64: math.MaxUint64,
	} {
		if got := string(number.AppendSigned(nil, n)); got != string(number.Append(nil, want)) {
			t.Errorf("AppendSigned(%d) is %q, not the number %d", n, got, want)
		}
		if got := number.Signed(want); got != n {
			t.Errorf("Signed(%d) is %d, not %d", want, got, n)
		}
	}
}

// 2.1: what no number is written as.
func TestReadWrong(t *testing.T) {
	for _, s := range []string{
		"",
		"\x80",
		"\xff\xff",
		"\x80\x00",
		"\x81\x80\x00",
		strings.Repeat("\xff", 9) + "\x02",
		strings.Repeat("\xff", 9) + "\x7f",
		strings.Repeat("\x80", 10) + "\x01",
		strings.Repeat("\x80", 100),
	} {
		if n, _, ok := number.Read(s); ok {
			t.Errorf("Read(%q) is %d", s, n)
		}
	}
}
