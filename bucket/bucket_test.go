package bucket_test

import (
	"math"
	"slices"
	"strings"
	"testing"

	"millpond/api"
	"millpond/bucket"
	"millpond/plain"
)

// wantErr says whether an error is just that Errno (nil, if it is OK), at no place.
func wantErr(t *testing.T, what string, err error, want api.Errno) {
	t.Helper()
	if want == api.OK {
		if err != nil {
			t.Errorf("%s: %v, but nothing is wrong", what, err)
		}
		return
	}
	if e, place := plain.Place(err); e != want || place != -1 {
		t.Errorf("%s: error %d at %d, not %d at none", what, e, place, want)
	}
}

// wantThere says whether a text lies at a key.
func wantThere(t *testing.T, b *bucket.Bucket, key, want string) {
	t.Helper()
	s, err := b.Get(key)
	if s != want || err != nil {
		t.Errorf("Get(%q) is %q, %v, not %q", key, s, err, want)
	}
}

// wantNothing says whether nothing lies at a key.
func wantNothing(t *testing.T, b *bucket.Bucket, key string) {
	t.Helper()
	s, err := b.Get(key)
	wantErr(t, "Get of "+key, err, api.ErrMissing)
	if s != "" {
		t.Errorf("Get(%q) is %q beside an error", key, s)
	}
}

// wantKeys says whether the keys that begin so are just those, in that order.
func wantKeys(t *testing.T, b *bucket.Bucket, prefix string, want ...string) {
	t.Helper()
	if got := b.List(prefix); !slices.Equal(got, want) {
		t.Errorf("List(%q) is %q, not %q", prefix, got, want)
	}
}

// with is a bucket in which a text of its own lies at each of the keys.
func with(t *testing.T, keys ...string) *bucket.Bucket {
	t.Helper()
	b := &bucket.Bucket{}
	for _, key := range keys {
		wantErr(t, "Put at "+key, b.Put(key, "of "+key), api.OK)
	}
	return b
}

// 6.1, P5: the numbers of what may go wrong.
func TestNumbers(t *testing.T) {
	if bucket.Fine != 0 || bucket.Lost != 1 || bucket.Done != 2 {
		t.Errorf("Fine, Lost, Done are %d, %d, %d", bucket.Fine, bucket.Lost, bucket.Done)
	}
}

// 6.1: the zero value has nothing.
func TestZero(t *testing.T) {
	for _, key := range []string{"", "a", strings.Repeat("k", 61)} {
		var b bucket.Bucket
		wantKeys(t, &b, key)
		wantNothing(t, &b, key)
		wantErr(t, "Delete of what is not there", b.Delete(key), api.ErrMissing)
		wantKeys(t, &b, "")
	}
}

// 6.1: what is put is there, whatever bytes it has, and at its key alone.
func TestPut(t *testing.T) {
	var b bucket.Bucket
	texts := map[string]string{
		"a": "x", "b": "x", "A": "", "\x00": "\x00", "\xff\xfe": "\xff", " ": "\n", "c/d": strings.Repeat("long", 10_000),
		"e": "水", "e\u0301": "1", "\u00e9": "2",
	}
	for key, s := range texts {
		wantErr(t, "Put", b.Put(key, s), api.OK)
	}
	for key, s := range texts {
		wantThere(t, &b, key, s)
	}
	for _, key := range []string{"", "B", "c", "c/", "c/d/", "c/d ", "\xff", "\xfe"} {
		wantNothing(t, &b, key)
	}
}

// 6.1, P5: a key has 1 to 60 bytes, not letters.
func TestPutKey(t *testing.T) {
	for key, want := range map[string]api.Errno{
		"":                                api.ErrArg,
		"k":                               api.OK,
		strings.Repeat("k", 59):           api.OK,
		strings.Repeat("k", 60):           api.OK,
		strings.Repeat("k", 61):           api.ErrArg,
		strings.Repeat("k", 1<<16):        api.ErrArg,
		strings.Repeat("é", 30):           api.OK,
		strings.Repeat("é", 30) + "k":     api.ErrArg,
		strings.Repeat("水", 20):           api.OK,
		strings.Repeat("水", 21):           api.ErrArg,
		strings.Repeat("\xff", 60):        api.OK,
		strings.Repeat("\x00", 61):        api.ErrArg,
		strings.Repeat(" ", 60):           api.OK,
		strings.Repeat("k", 60) + "\x00":  api.ErrArg,
		"log/" + strings.Repeat("0", 56):  api.OK,
		"data/" + strings.Repeat("a", 56): api.ErrArg,
	} {
		var b bucket.Bucket
		wantErr(t, "Put at "+key, b.Put(key, "x"), want)
		if want == api.OK {
			wantThere(t, &b, key, "x")
			wantKeys(t, &b, "", key)
		} else {
			wantNothing(t, &b, key)
			wantKeys(t, &b, "")
		}
	}
}

// 6.1: who is first stays, also if a second one brings the same, and if the first one was nothing but an empty text.
func TestPutTwice(t *testing.T) {
	var b bucket.Bucket
	for key, s := range map[string]string{"a": "x", "b": ""} {
		wantErr(t, "Put", b.Put(key, s), api.OK)
		for _, other := range []string{s, "y", ""} {
			wantErr(t, "Put of "+other+" where something is", b.Put(key, other), api.ErrTwice)
			wantThere(t, &b, key, s)
		}
	}
	wantKeys(t, &b, "", "a", "b")
}

// 6.1: how puts go, fault by fault, and that those behind the last one go well.
func TestFaults(t *testing.T) {
	var b bucket.Bucket
	b.Faults([]int{bucket.Fine, bucket.Lost, bucket.Done, bucket.Lost})
	wantErr(t, "Put, Fine", b.Put("a", "x"), api.OK)
	wantThere(t, &b, "a", "x")
	wantErr(t, "Put, Lost", b.Put("b", "x"), api.ErrDevice)
	wantNothing(t, &b, "b")
	wantErr(t, "Put, Done", b.Put("b", "y"), api.ErrDevice)
	wantThere(t, &b, "b", "y")
	wantErr(t, "Put, Lost again", b.Put("c", "x"), api.ErrDevice)
	wantKeys(t, &b, "", "a", "b")
	for _, key := range []string{"c", "d"} {
		wantErr(t, "Put behind the last fault", b.Put(key, "z"), api.OK)
		wantThere(t, &b, key, "z")
	}
	wantKeys(t, &b, "", "a", "b", "c", "d")
}

// 6.1: the first thing of all may be Done, and Lost.
func TestFaultsFirst(t *testing.T) {
	var b bucket.Bucket
	b.Faults([]int{bucket.Done})
	wantErr(t, "Put, Done", b.Put("a", ""), api.ErrDevice)
	wantThere(t, &b, "a", "")
	var c bucket.Bucket
	c.Faults([]int{bucket.Lost})
	wantErr(t, "Put, Lost", c.Put("a", "x"), api.ErrDevice)
	wantNothing(t, &c, "a")
	wantErr(t, "Delete of what was lost", c.Delete("a"), api.ErrMissing)
}

// 6.1: any other number is as good as Fine, and is used up as well.
func TestFaultsOther(t *testing.T) {
	for _, other := range []int{-1, -2, 3, 4, 257, 258, 1<<32 + 1, 1<<32 + 2, math.MaxInt, math.MinInt, math.MinInt + 1} {
		var b bucket.Bucket
		b.Faults([]int{other, bucket.Lost})
		wantErr(t, "Put of another fault", b.Put("a", "x"), api.OK)
		wantThere(t, &b, "a", "x")
		wantErr(t, "Put, Lost, behind another fault", b.Put("b", "x"), api.ErrDevice)
		wantNothing(t, &b, "b")
	}
}

// 6.1, P3: ErrArg and ErrTwice are told ahead of a fault, and in that order; neither they nor other calls use one up.
func TestFaultsStay(t *testing.T) {
	long := strings.Repeat("k", 61)
	for _, fault := range []int{bucket.Lost, bucket.Done} {
		b := with(t, "a", "b")
		b.Faults([]int{fault})
		wantErr(t, "Put at no key", b.Put("", "x"), api.ErrArg)
		wantErr(t, "Put at a long key", b.Put(long, "x"), api.ErrArg)
		wantErr(t, "Put where something is", b.Put("a", "x"), api.ErrTwice)
		wantThere(t, b, "a", "of a")
		wantNothing(t, b, "c")
		wantErr(t, "Delete", b.Delete("b"), api.OK)
		wantErr(t, "Delete again", b.Delete("b"), api.ErrMissing)
		wantKeys(t, b, "", "a")
		wantErr(t, "Put of the fault", b.Put("c", "x"), api.ErrDevice)
		wantErr(t, "Put behind the fault", b.Put("d", "x"), api.OK)
	}
}

// 6.1: after Done something is there: a second put is told so, whatever fault comes next.
func TestDoneIsThere(t *testing.T) {
	var b bucket.Bucket
	b.Faults([]int{bucket.Done, bucket.Lost})
	wantErr(t, "Put, Done", b.Put("a", "x"), api.ErrDevice)
	wantErr(t, "Put again", b.Put("a", "x"), api.ErrTwice)
	wantErr(t, "Put elsewhere", b.Put("b", "x"), api.ErrDevice)
	wantKeys(t, &b, "", "a")
}

// 6.1: new faults are in the place of those that are left, not behind them; also if there are none.
func TestFaultsForgotten(t *testing.T) {
	var b bucket.Bucket
	b.Faults([]int{bucket.Lost, bucket.Lost, bucket.Lost})
	wantErr(t, "Put, Lost", b.Put("a", "x"), api.ErrDevice)
	b.Faults([]int{bucket.Done})
	wantErr(t, "Put, Done", b.Put("a", "x"), api.ErrDevice)
	wantThere(t, &b, "a", "x")
	wantErr(t, "Put behind the last fault", b.Put("b", "x"), api.OK)
	for _, none := range [][]int{nil, {}} {
		b.Faults([]int{bucket.Lost, bucket.Lost})
		b.Faults(none)
		wantErr(t, "Put of no fault", b.Put("c", "x"), api.OK)
		wantErr(t, "Delete", b.Delete("c"), api.OK)
	}
}

// P4: Faults keeps no list, and neither it nor Put writes into one.
func TestFaultsKeepsOff(t *testing.T) {
	var b bucket.Bucket
	whole := []int{bucket.Fine, bucket.Lost, bucket.Lost, bucket.Lost}
	l := whole[:2]
	b.Faults(l)
	wantErr(t, "Put, Fine", b.Put("a", "x"), api.OK)
	if !slices.Equal(whole, []int{bucket.Fine, bucket.Lost, bucket.Lost, bucket.Lost}) {
		t.Errorf("the list is %v now", whole)
	}
	l[1] = bucket.Fine
	wantErr(t, "Put, Lost when it was told", b.Put("b", "x"), api.ErrDevice)
	wantErr(t, "Put behind the list's length", b.Put("b", "x"), api.OK)
}

// 6.1: Get changes nothing, and tells the same each time.
func TestGet(t *testing.T) {
	b := with(t, "a", "ab")
	for range 3 {
		wantThere(t, b, "a", "of a")
		wantThere(t, b, "ab", "of ab")
		wantNothing(t, b, "b")
		wantNothing(t, b, "")
		wantNothing(t, b, strings.Repeat("k", 61))
	}
	wantKeys(t, b, "", "a", "ab")
}

// 6.1: Delete takes that one alone, once; another thing may be put there then.
func TestDelete(t *testing.T) {
	b := with(t, "a", "ab", "b")
	for _, key := range []string{"", "A", "abc", "c", strings.Repeat("k", 61)} {
		wantErr(t, "Delete of what is not there", b.Delete(key), api.ErrMissing)
	}
	wantKeys(t, b, "", "a", "ab", "b")
	wantErr(t, "Delete", b.Delete("a"), api.OK)
	wantNothing(t, b, "a")
	wantKeys(t, b, "", "ab", "b")
	wantThere(t, b, "ab", "of ab")
	wantErr(t, "Delete again", b.Delete("a"), api.ErrMissing)
	wantErr(t, "Put where nothing is any more", b.Put("a", "new"), api.OK)
	wantThere(t, b, "a", "new")
	wantKeys(t, b, "", "a", "ab", "b")
	for _, key := range []string{"a", "ab", "b"} {
		wantErr(t, "Delete", b.Delete(key), api.OK)
	}
	wantKeys(t, b, "")
	wantErr(t, "Put into what is empty again", b.Put("b", ""), api.OK)
	wantErr(t, "Delete of an empty text", b.Delete("b"), api.OK)
	wantNothing(t, b, "b")
}

// 6.1, P5: keys that begin so, in order, byte by byte: neither by letters nor by numbers nor by when they came.
func TestList(t *testing.T) {
	b := with(t, "log/10", "a", "\xff", "log/9", "Z", "ab", "é", "a\x00", "data/a", "log", "log/", "zz", "\xc3", "Log/1", "\x00", "b", "水")
	wantKeys(t, b, "", "\x00", "Log/1", "Z", "a", "a\x00", "ab", "b", "data/a", "log", "log/", "log/10", "log/9", "zz", "\xc3", "é", "水", "\xff")
	wantKeys(t, b, "a", "a", "a\x00", "ab")
	wantKeys(t, b, "ab", "ab")
	wantKeys(t, b, "log", "log", "log/", "log/10", "log/9")
	wantKeys(t, b, "log/", "log/", "log/10", "log/9")
	wantKeys(t, b, "log/1", "log/10")
	wantKeys(t, b, "\xc3", "\xc3", "é")
	wantKeys(t, b, "\xff", "\xff")
	for _, none := range []string{"abc", "c", "og", "/", "LOG", "log/100", " ", "\xff\xff", "\xfe", "*", "log/?", strings.Repeat("k", 61)} {
		wantKeys(t, b, none)
	}
}

// P4: what List tells is the caller's.
func TestListIsTheCallers(t *testing.T) {
	b := with(t, "a", "b", "c")
	l, again := b.List(""), b.List("")
	l[0] = "x"
	_ = append(l[:1], "y", "z")
	if !slices.Equal(again, []string{"a", "b", "c"}) {
		t.Errorf("a list that was told is %q now", again)
	}
	wantKeys(t, b, "", "a", "b", "c")
	wantErr(t, "Delete", b.Delete("b"), api.OK)
	wantErr(t, "Put", b.Put("d", "x"), api.OK)
	if !slices.Equal(again, []string{"a", "b", "c"}) {
		t.Errorf("a list that was told ahead of others is %q now", again)
	}
}

// P4: what a bucket tells hangs on the calls on itself alone.
func TestTwoBuckets(t *testing.T) {
	var b, c bucket.Bucket
	b.Faults([]int{bucket.Lost})
	wantErr(t, "Put into the other one", c.Put("a", "x"), api.OK)
	wantErr(t, "Put, Lost", b.Put("a", "y"), api.ErrDevice)
	wantKeys(t, &b, "")
	wantErr(t, "Put", b.Put("a", "y"), api.OK)
	wantErr(t, "Delete", b.Delete("a"), api.OK)
	wantThere(t, &c, "a", "x")
}

// P1: a bucket that is nil is no bucket; yet no call on it panics, and nothing is ever there.
func TestNil(t *testing.T) {
	var b *bucket.Bucket
	b.Faults([]int{bucket.Done})
	wantErr(t, "Put at no key", b.Put("", "x"), api.ErrArg)
	wantErr(t, "Put", b.Put("a", "x"), api.ErrDevice)
	wantNothing(t, b, "a")
	wantErr(t, "Delete", b.Delete("a"), api.ErrMissing)
	wantKeys(t, b, "")
}

// die gives numbers that look drawn, the same each time.
type die uint64

func (d *die) below(most int) int {
	*d = *d*6364136223846793005 + 1442695040888963407
	return int(uint64(*d>>33) % uint64(most))
}

// drawer is a bucket as plain as can be: pairs of a key and a text, always in order.
type drawer struct {
	pairs  [][2]string
	faults []int
}

func (w *drawer) find(key string) (int, bool) {
	return slices.BinarySearchFunc(w.pairs, key, func(pair [2]string, key string) int { return strings.Compare(pair[0], key) })
}

func (w *drawer) put(key, s string) api.Errno {
	i, there := w.find(key)
	if there {
		return api.ErrTwice
	}
	fault := bucket.Fine
	if len(w.faults) > 0 {
		fault, w.faults = w.faults[0], w.faults[1:]
	}
	if fault != bucket.Lost {
		w.pairs = slices.Insert(w.pairs, i, [2]string{key, s})
	}
	if fault == bucket.Lost || fault == bucket.Done {
		return api.ErrDevice
	}
	return api.OK
}

func (w *drawer) remove(key string) api.Errno {
	i, there := w.find(key)
	if !there {
		return api.ErrMissing
	}
	w.pairs = slices.Delete(w.pairs, i, i+1)
	return api.OK
}

func (w *drawer) list(prefix string) []string {
	var keys []string
	for _, pair := range w.pairs {
		if strings.HasPrefix(pair[0], prefix) {
			keys = append(keys, pair[0])
		}
	}
	return keys
}

// 6.1: many calls, one behind the other, in no order of their own, tell what a plain bucket tells.
func TestManyCalls(t *testing.T) {
	d := die(6)
	var b bucket.Bucket
	var w drawer
	key := func() string { return strings.Repeat("a", d.below(3)) + string([]byte{byte(250 + d.below(6))}) }
	for range 5000 {
		k := key()
		switch d.below(8) {
		case 0:
			w.faults = []int{d.below(4), d.below(4), d.below(4)}[:d.below(4)]
			b.Faults(w.faults)
		case 1, 2, 3:
			s := key()
			wantErr(t, "Put", b.Put(k, s), w.put(k, s))
		case 4, 5:
			wantErr(t, "Delete", b.Delete(k), w.remove(k))
		case 6:
			prefix := k[:d.below(len(k)+1)]
			wantKeys(t, &b, prefix, w.list(prefix)...)
		default:
			if i, there := w.find(k); there {
				wantThere(t, &b, k, w.pairs[i][1])
			} else {
				wantNothing(t, &b, k)
			}
		}
		if t.Failed() {
			return
		}
	}
}
