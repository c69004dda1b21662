package commit_test

import (
	"fmt"
	"math"
	"slices"
	"strings"
	"testing"

	"millpond/api"
	"millpond/bucket"
	"millpond/commit"
	"millpond/log"
	"millpond/plain"
)

// wantDone says whether a commit that is tried of a version that was seen is made at just that version, and nothing else is done.
func wantDone(t *testing.T, b *bucket.Bucket, seen int, text string, want int) {
	t.Helper()
	was := texts(b)
	version, err := commit.Try(b, loaded(t, b, seen), of(t, text))
	if version != want || err != nil {
		t.Errorf("Try of %q is %d, %v, not %d", text, version, err, want)
	}
	wantTexts(t, b, append(was, text)...)
	if len(was)+1 != want {
		t.Errorf("Try of %q is %d behind %d", text, version, len(was))
	}
}

// wantNot says whether a commit that is tried of a version that was seen tells just that error, at that place, and nothing is done.
func wantNot(t *testing.T, b *bucket.Bucket, seen int, text string, want api.Errno, at int) {
	t.Helper()
	wantRefused(t, b, loaded(t, b, seen), of(t, text), want, at)
}

func wantRefused(t *testing.T, b *bucket.Bucket, seen api.Snapshot, c api.Commit, want api.Errno, at int) {
	t.Helper()
	was := texts(b)
	version, err := commit.Try(b, seen, c)
	wantErr(t, fmt.Sprintf("Try of %+v behind %d", c, seen.Version), err, want, at)
	if version != 0 {
		t.Errorf("Try of %+v is %d beside an error", c, version)
	}
	wantTexts(t, b, was...)
}

// texts are what lies in a bucket, in the order of its keys.
func texts(b *bucket.Bucket) []string {
	var l []string
	for _, key := range b.List("") {
		text, _ := b.Get(key)
		l = append(l, text)
	}
	return l
}

// 8.1: a commit is made at the version behind the one that was seen.
func TestTry(t *testing.T) {
	b := &bucket.Bucket{}
	for i, text := range []string{start, files, masked, wider, empty, by("t reads"), by("t reads", "remove f")} {
		wantDone(t, b, -1, text, i+1)
	}
	wantTable(t, b, -1, api.Snapshot{
		Version: 7, Next: 4, Files: []api.Entry{{Path: "h", Rows: 60}},
		Columns: []api.Column{{ID: 1, Name: "a", Kind: api.Int}, {ID: 3, Name: "b", Kind: api.Text, Must: true, Default: api.Value{Kind: api.Text, Text: "x"}}},
	})
	wantDone(t, &bucket.Bucket{}, 0, empty, 1)
}

// 8.1: who was first stays, and who fights none of them is made behind all of them.
func TestTryBehind(t *testing.T) {
	for seen := 2; seen <= 5; seen++ {
		b := with(t, start, files, by("u blind", "add h 1"), by("u reads", "mask f 0"), by("v blind", "add i 2", "remove g"))
		wantDone(t, b, seen, by("t blind", "add j 4"), 6)
		wantDone(t, b, seen, by("t blind", "add k 4", "mask k 0"), 7)
	}
	b := with(t, start, files)
	wantDone(t, b, 2, by("u blind", "mask f 1"), 3)
	wantDone(t, b, 2, by("v blind", "remove g"), 4)
	wantDone(t, b, 2, by("w blind", "add h 1"), 5)
	wantTable(t, b, -1, api.Snapshot{
		Version: 5, Columns: []api.Column{{ID: 1, Name: "a", Kind: api.Int}}, Next: 3,
		Files: []api.Entry{{Path: "f", Rows: 6, Mask: []int{1}}, {Path: "h", Rows: 1}},
	})
}

// 8.1: which commits fight those that were first, be they the next ones or further behind; and which do not.
func TestTryFights(t *testing.T) {
	const schema = "schema 3 2 b 1 may null"
	for _, one := range []struct {
		text, first string
		fights      bool
	}{
		{by("t blind", "mask f 0"), by("u blind", "mask f 1"), true},
		{by("t blind", "mask f 0"), by("u blind", "remove f"), true},
		{by("t blind", "remove f"), by("u blind", "mask f 1"), true},
		{by("t blind", "add h 1"), by("u blind", "add h 1"), true},
		{by("t blind", "add i 1", "add h 1"), by("u blind", "add j 1", "add h 2"), true},
		{by("t blind", "add h 1"), by("u blind", schema), true},
		{by("t blind"), by("u blind", schema), true},
		{by("t blind", schema), by("u blind", "add h 1"), true},
		{by("t blind", schema), by("u blind", schema), true},
		{by("t reads", "add h 1"), by("u blind", "add i 1"), true},
		{by("t reads"), by("u blind", "mask f 0"), true},
		{by("t reads", "mask f 0"), by("u reads", "remove g"), true},
		{by("t blind", "mask f 0"), by("u blind", "mask g 0"), false},
		{by("t blind", "add h 1"), by("u blind", "add i 1"), false},
		{by("t blind", "add h 1"), by("u reads", "remove g"), false},
		{by("t blind"), by("u reads", "remove g"), false},
		{by("t reads", "mask f 0"), by("u blind"), false},
		{by("t reads"), by("u reads"), false},
		{by("t blind", schema), by("u reads"), false},
		{by("t blind", "add h 1"), by("t blind"), false},
	} {
		for _, first := range [][]string{{one.first}, {by("u reads"), one.first}, {one.first, by("v blind")}, {by("v blind"), one.first, by("v reads")}} {
			b := with(t, append([]string{start, files}, first...)...)
			if one.fights {
				wantNot(t, b, 2, one.text, api.ErrState, -1)
			} else {
				wantDone(t, b, 2, one.text, 3+len(first))
			}
		}
	}
}

// 8.1: who has seen those that were first does not fight them.
func TestTrySeen(t *testing.T) {
	b := with(t, start, files, by("u blind", "mask f 0"))
	c := by("t reads", "mask f 1")
	wantNot(t, b, 2, c, api.ErrState, -1)
	wantDone(t, b, 3, c, 4)
	wantNot(t, b, 3, by("t reads", "mask f 2"), api.ErrState, -1)
	wantDone(t, b, -1, by("t reads", "mask f 2"), 5)
}

// 8.1: commits that Print does not write, ahead of all else: of what can't be done, of a full log, of what is there; no fault is used up.
func TestTryArg(t *testing.T) {
	full := with(t, append([]string{start, files}, slices.Repeat([]string{empty}, 198)...)...)
	junk := with(t, start, files)
	seen := loaded(t, junk, 2)
	if err := junk.Put(number(3), "x"); err != nil {
		t.Fatal(err)
	}
	ahead := api.Action{Kind: api.Remove, Path: "none"}
	for _, c := range []api.Commit{
		{}, {Tx: "T"}, {Tx: "a b"}, {Tx: "t\n"}, {Tx: strings.Repeat("t", 17)}, {Actions: []api.Action{ahead}},
		{Tx: "t", Actions: []api.Action{ahead, {}}},
		{Tx: "t", Actions: []api.Action{{Kind: 5}}},
		{Tx: "t", Actions: []api.Action{ahead, {Kind: api.Add, Path: "h"}}},
		{Tx: "t", Actions: []api.Action{ahead, {Kind: api.Add, Path: "H", Rows: 1}}},
		{Tx: "t", Actions: []api.Action{{Kind: api.Add, Path: "h", Rows: 61}}},
		{Tx: "t", Actions: []api.Action{{Kind: api.Add, Path: "h", Rows: 1, Next: 1}}},
		{Tx: "t", Actions: []api.Action{{Kind: api.Remove, Path: "f", Mask: []int{1}}}},
		{Tx: "t", Actions: []api.Action{{Kind: api.Mask, Path: "f"}}},
		{Tx: "t", Actions: []api.Action{{Kind: api.Mask, Path: "f", Mask: []int{1, 0}}}},
		{Tx: "t", Actions: []api.Action{{Kind: api.Mask, Path: "f", Mask: []int{60}}}},
		{Tx: "t", Actions: []api.Action{{Kind: api.Schema, Next: 2}}},
		{Tx: "t", Actions: []api.Action{{Kind: api.Schema, Columns: []api.Column{{ID: 2, Name: "a", Kind: api.Int}}, Next: 2}}},
	} {
		b := with(t, start, files)
		b.Faults([]int{bucket.Lost})
		wantRefused(t, b, seen, c, api.ErrArg, -1)
		wantErr(t, "Put", b.Put("a", "x"), api.ErrDevice, -1)
		wantRefused(t, junk, seen, c, api.ErrArg, -1)
		wantRefused(t, full, seen, c, api.ErrArg, -1)
		wantRefused(t, full, loaded(t, full, -1), c, api.ErrArg, -1)
	}
}

// 8.1: what can't be done to the table as it was seen is told, and where, ahead of a full log and of what is there; no fault is used up.
func TestTryApply(t *testing.T) {
	full := with(t, append([]string{start, files}, slices.Repeat([]string{empty}, 198)...)...)
	many := "t blind"
	for i := range 39 {
		many += fmt.Sprint("\nadd x", i, " 1")
	}
	for text, want := range map[string]api.At{
		by("t blind", "add f 1"):                                 {Err: api.ErrTwice, Place: 0},
		by("t blind", "add h 1", "add h 1"):                      {Err: api.ErrTwice, Place: 1},
		by("t blind", "remove g", "remove h"):                    {Err: api.ErrMissing, Place: 1},
		by("t reads", "mask h 0"):                                {Err: api.ErrMissing, Place: 0},
		by("t blind", "mask f 0", "mask g 0", "mask f 0"):        {Err: api.ErrState, Place: 2},
		by("t blind", "add h 1", "mask g 3"):                     {Err: api.ErrArg, Place: 1},
		by("t blind", "add h 1", "schema 2 1 a 1 may null"):      {Err: api.ErrArg, Place: 1},
		by("t blind", "schema 9 1 a 1 may null", "mask f 0,1,6"): {Err: api.ErrArg, Place: 1},
		by(many): {Err: api.ErrFull, Place: 38},
	} {
		b := with(t, start, files)
		b.Faults([]int{bucket.Lost})
		wantNot(t, b, 2, text, want.Err, want.Place)
		wantErr(t, "Put", b.Put("a", "x"), api.ErrDevice, -1)
		wantNot(t, full, -1, text, want.Err, want.Place)
		for _, first := range []string{"x", text, by("u blind", "schema 9 8 z 1 may null"), by("u blind", "remove none")} {
			wantNot(t, with(t, start, files, first), 2, text, want.Err, want.Place)
		}
	}
	wantNot(t, &bucket.Bucket{}, -1, by("t blind", "add f 1"), api.ErrState, 0)
	wantNot(t, with(t, by("t blind", "schema 5 1 a 1 may null")), 1, by("t blind", "schema 4 1 a 1 may null"), api.ErrArg, 0)
}

// 8.1: what can be done to the table as it was seen may be too much behind those that were first: that is told of the table as it is then.
func TestTryApplyBehind(t *testing.T) {
	l := []string{"t blind"}
	for i := range 38 {
		l = append(l, fmt.Sprint("add x", i, " 1"))
	}
	b := with(t, start, by(l...), by("u blind", "add f 1"))
	wantNot(t, b, 2, by("v blind", "add h 1", "add i 1"), api.ErrFull, 1)
	wantDone(t, b, 2, by("v blind", "add h 1"), 4)
	wantNot(t, b, 2, by("w blind", "add i 1"), api.ErrFull, 0)
	wantNot(t, b, 3, by("w blind", "add i 1"), api.ErrFull, 0)
	wantDone(t, b, 2, by("w blind", "remove x0", "add i 1"), 5)
}

// 8.1: MaxCommits are made, and no more, wherever one begins.
func TestTryFull(t *testing.T) {
	b := with(t, append([]string{start, files}, slices.Repeat([]string{empty}, 196)...)...)
	wantDone(t, b, -1, by("t blind", "add h 1"), 199)
	wantDone(t, b, 2, by("t blind"), 200)
	b.Faults([]int{bucket.Lost})
	for _, seen := range []int{2, 3, 198, 199, 200, -1} {
		wantNot(t, b, seen, by("t blind", "add i 1"), api.ErrFull, -1)
		wantNot(t, b, seen, empty, api.ErrFull, -1)
	}
	wantErr(t, "Put", b.Put("a", "x"), api.ErrDevice, -1)
	wantNot(t, b, 2, by("t blind", "add h 1"), api.ErrState, -1)
	wantNot(t, b, 0, empty, api.ErrState, -1)
	for _, more := range []int{1, 2, 50} {
		over := with(t, slices.Repeat([]string{empty}, 200+more)...)
		for _, seen := range []int{0, 199, 200, -1} {
			wantNot(t, over, seen, by("u blind"), api.ErrFull, -1)
		}
	}
}

// 8.1: a put that is lost is told, and nothing is there; one that is done, and told otherwise, is made.
func TestTryFaults(t *testing.T) {
	c := by("t blind", "add h 1")
	b := with(t, start, files)
	b.Faults([]int{bucket.Lost, bucket.Lost, bucket.Done, bucket.Lost, bucket.Fine})
	wantNot(t, b, 2, c, api.ErrDevice, -1)
	wantNot(t, b, 2, c, api.ErrDevice, -1)
	wantDone(t, b, 2, c, 3)
	wantNot(t, b, 2, by("t blind", "add i 1"), api.ErrDevice, -1)
	wantDone(t, b, 2, by("t blind", "add i 1"), 4)
	wantDone(t, b, 2, by("t blind", "add j 1"), 5)
	zero := &bucket.Bucket{}
	zero.Faults([]int{bucket.Lost, bucket.Done})
	wantNot(t, zero, 0, start, api.ErrDevice, -1)
	wantDone(t, zero, 0, start, 1)
}

// 8.1: where another one was first no fault is used up; the put that is made behind it may go wrong.
func TestTryFaultsBehind(t *testing.T) {
	c := by("t blind", "add h 1")
	for fault, done := range map[int]bool{bucket.Fine: true, bucket.Done: true, bucket.Lost: false} {
		b := with(t, start, files, by("u blind", "mask f 0"), empty)
		b.Faults([]int{fault, bucket.Lost})
		if done {
			wantDone(t, b, 2, c, 5)
		} else {
			wantNot(t, b, 2, c, api.ErrDevice, -1)
		}
		wantErr(t, "Put", b.Put("a", "x"), api.ErrDevice, -1)
	}
	for _, fault := range []int{bucket.Lost, bucket.Done} {
		b := with(t, start, files, by("u blind", "mask f 0"))
		b.Faults([]int{fault})
		wantNot(t, b, 2, by("t blind", "mask f 1"), api.ErrState, -1)
		wantErr(t, "Put", b.Put("a", "x"), api.ErrDevice, -1)
	}
}

// 8.1: one that is there already, and is just the same, is another one's, unless the put went wrong.
func TestTrySame(t *testing.T) {
	for _, text := range []string{empty, by("t reads")} {
		b := with(t, start, files, text)
		wantDone(t, b, 2, text, 4)
		b.Faults([]int{bucket.Done})
		wantDone(t, b, 2, text, 5)
		wantDone(t, b, 2, text, 6)
	}
	for _, text := range []string{by("t blind", "add h 1"), by("t blind", "mask f 0"), by("t reads", "remove g")} {
		b := with(t, start, files)
		b.Faults([]int{bucket.Done, bucket.Done})
		wantDone(t, b, 2, text, 3)
		wantNot(t, b, 2, text, api.ErrState, -1)
	}
}

// 8.1: no commit is there, next or further behind: whatever is tried.
func TestTryForm(t *testing.T) {
	for _, wrong := range noCommits() {
		for _, first := range [][]string{{wrong}, {empty, wrong}, {by("u blind", "add i 1"), wrong}} {
			for _, text := range []string{empty, by("t blind", "add h 1"), by("t blind", "add h 1", "remove f")} {
				b := with(t, append([]string{start, files}, first...)...)
				seen, c := loaded(t, b, 2), of(t, text)
				wantRefused(t, b, seen, c, api.ErrForm, -1)
				b.Faults([]int{bucket.Done})
				wantRefused(t, b, seen, c, api.ErrForm, -1)
			}
		}
	}
	wantNot(t, with(t, start, files, "x"), 2, by("t reads", "remove f"), api.ErrForm, -1)
	wantNot(t, with(t, start, files, empty, "x"), 2, by("t reads", "remove f"), api.ErrForm, -1)
	wantNot(t, with(t, start, files, by("u blind", "mask f 0"), "x"), 2, by("t reads", "remove f"), api.ErrState, -1)
}

// 8.1: a commit that is there, but can't be done: who fights it is told so; who does not, that it may not be there, at no place.
func TestTryNotDone(t *testing.T) {
	for _, wrong := range notDone() {
		b := with(t, start, files, wrong)
		wantNot(t, b, 2, by("t reads"), api.ErrState, -1)
		if strings.Contains(wrong, "schema") {
			wantNot(t, b, 2, by("t blind", "add z 1"), api.ErrState, -1)
			continue
		}
		wantNot(t, b, 2, by("t blind"), api.ErrForm, -1)
		wantNot(t, b, 2, by("t blind", "add z 1"), api.ErrForm, -1)
		wantNot(t, with(t, start, files, empty, wrong), 2, by("t blind", "add z 1"), api.ErrForm, -1)
	}
}

// P4: what is handed in stays as it is, also behind a list's length, and what is written into it later is not what was made.
func TestTryKeepsOff(t *testing.T) {
	b := with(t, start, files, by("u blind", "remove g"), by("u blind", "add h 2"))
	seen := loaded(t, b, 2)
	seen.Files = append(seen.Files, api.Entry{Path: "behind", Rows: 9})[:len(seen.Files)]
	text := by("t blind", "add i 2", "mask i 0,1", "mask f 2,5")
	c := of(t, text)
	was := fmt.Sprintf("%+v %+v", seen, c)
	if version, err := commit.Try(b, seen, c); version != 5 || err != nil {
		t.Fatalf("Try is %d, %v", version, err)
	}
	if now := fmt.Sprintf("%+v %+v", seen, c); now != was || seen.Files[:3][2].Path != "behind" {
		t.Errorf("what was handed in is %s, not %s", now, was)
	}
	c.Tx, c.Actions[0].Path, c.Actions[1].Mask[0] = "spoilt", "spoilt", 1
	seen.Files[0].Path = "spoilt"
	if got, err := b.Get(number(5)); got != text || err != nil {
		t.Errorf("there lies %q, %v", got, err)
	}
	if s := loaded(t, b, -1); fmt.Sprint(s.Files) != "[{f 6 [2 5]} {h 2 []} {i 2 [0 1]}]" {
		t.Errorf("the table is %+v", s)
	}
}

// P1: a call ends, whatever it is given.
func TestTryEnds(t *testing.T) {
	c := of(t, empty)
	wantRefused(t, nil, api.Snapshot{}, c, api.ErrDevice, -1)
	for _, version := range []int{-1, -2, math.MinInt, math.MaxInt, math.MaxInt - 1, 1 << 40} {
		b := with(t, start, files)
		_, _ = commit.Try(b, api.Snapshot{Version: version}, c)
		_, _ = commit.Try(b, api.Snapshot{Version: version, Next: version, Files: []api.Entry{{}, {Rows: -1, Mask: []int{-1}}}}, of(t, files))
	}
	wantRefused(t, with(t, start), api.Snapshot{Version: math.MaxInt}, c, api.ErrFull, -1)
}

// P1: long commits, behind as many others as there may be, end soon.
func TestTryLong(t *testing.T) {
	var long strings.Builder
	for range 10_000 {
		long.WriteString("\nadd h 1\nremove h")
	}
	b := with(t, append([]string{start}, slices.Repeat([]string{by("u reads", "add i 1", "remove i")}, 198)...)...)
	wantDone(t, b, 1, by("t blind"+long.String()), 200)
}

// die: numbers that look drawn, the same each time.
type die uint64

func (d *die) n(most int) int {
	*d = *d*6364136223846793005 + 1442695040888963407
	return int(uint64(*d>>33) % uint64(most))
}

// drawn is a commit that may be written.
func drawn(d *die) string {
	l := []string{[]string{"t blind", "t blind", "u blind", "u reads"}[d.n(4)]}
	for range d.n(3) {
		path := string(rune('f' + d.n(8)))
		l = append(l, []string{
			fmt.Sprint("add ", path, " ", 1+d.n(6)), "remove " + path, fmt.Sprint("mask ", path, " ", d.n(4)), fmt.Sprintf("schema %d 1 a 1 may null", 2+d.n(3)),
		}[d.n(13)/4])
	}
	return by(l...)
}

// allowed is why a commit that is tried of a version may tell an error: it can't be done to a version from there on, or it fights one behind it.
func allowed(t *testing.T, b *bucket.Bucket, seen int, c api.Commit, err error) bool {
	t.Helper()
	last := loaded(t, b, -1).Version
	for version := seen; version <= last; version++ {
		if _, apply := log.Apply(loaded(t, b, version), c); apply != nil {
			e, place := plain.Place(apply)
			told, at := plain.Place(err)
			return told == e && at == place
		}
		if version < last {
			text, _ := b.Get(number(version + 1))
			if log.Fights(c, of(t, text)) {
				return err == api.ErrState
			}
		}
	}
	return false
}

// 8.1: many who write write one after the other: each that is made is done behind all that were there, fights none that it had not seen, and changes none; each that is not has its reason, and left nothing.
func TestTryDrawn(t *testing.T) {
	d := die(8)
	times := map[string]int{}
	for range 150 {
		b := with(t, start)
		was := []string{start}
		for range 25 {
			seen, text, fault := max(len(was)-d.n(4), 0), drawn(&d), d.n(6)
			c := of(t, text)
			b.Faults([]int{fault})
			version, err := commit.Try(b, loaded(t, b, seen), c)
			switch {
			case err == nil:
				times["made"]++
				next, apply := log.Apply(loaded(t, b, len(was)), c)
				for i := seen; i < len(was); i++ {
					times["behind"]++
					if log.Fights(c, of(t, was[i])) {
						t.Errorf("Try of %q of version %d is made behind %q", text, seen, was[i])
					}
				}
				was = append(was, text)
				if version != len(was) || apply != nil || fault == bucket.Lost {
					t.Errorf("Try of %q of version %d is %d behind %d (%v)", text, seen, version, len(was)-1, apply)
				}
				wantTable(t, b, -1, next)
			case err == api.ErrDevice:
				times["lost"]++
				if fault != bucket.Lost {
					t.Errorf("Try of %q is %v, but nothing goes wrong", text, err)
				}
			default:
				times["refused"]++
				if version != 0 || !allowed(t, b, seen, c, err) {
					t.Errorf("Try of %q of version %d, behind %q, is %d, %v", text, seen, was[seen:], version, err)
				}
			}
			wantTexts(t, b, was...)
		}
	}
	for _, what := range []string{"made", "behind", "lost", "refused"} {
		if times[what] < 100 {
			t.Errorf("%d are %s: too few to tell", times[what], what)
		}
	}
}
