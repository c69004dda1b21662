package commit_test

import (
	"fmt"
	"math"
	"reflect"
	"slices"
	"strings"
	"testing"

	"millpond/api"
	"millpond/bucket"
	"millpond/commit"
	"millpond/log"
	"millpond/plain"
)

// wantErr says whether an error is just that Errno, at that place (-1: at none).
func wantErr(t *testing.T, what string, err error, want api.Errno, at int) {
	t.Helper()
	if e, place := plain.Place(err); e != want || place != at {
		t.Errorf("%s: error %d at %d, not %d at %d", what, e, place, want, at)
	}
}

// by is a commit as a text: who, and whether it hangs on all, then its actions, a line each.
func by(lines ...string) string { return "commit " + strings.Join(lines, "\n") + "\n" }

// of is the commit of a text.
func of(t *testing.T, text string) api.Commit {
	t.Helper()
	c, err := log.Parse(text)
	if err != nil {
		t.Fatalf("%q is no commit: %v", text, err)
	}
	return c
}

// number is the key of a version, by other means than the program's.
func number(version int) string { return fmt.Sprintf("log/%06d", version) }

// with is a bucket in which texts lie at versions 1, 2 and so on.
func with(t *testing.T, texts ...string) *bucket.Bucket {
	t.Helper()
	b := &bucket.Bucket{}
	for i, text := range texts {
		if err := b.Put(number(i+1), text); err != nil {
			t.Fatal(err)
		}
	}
	return b
}

// wantTexts says whether just these texts lie at versions 1, 2 and so on, and nothing else anywhere.
func wantTexts(t *testing.T, b *bucket.Bucket, want ...string) {
	t.Helper()
	for i, text := range want {
		if got, err := b.Get(number(i + 1)); got != text || err != nil {
			t.Errorf("at version %d lies %q, %v, not %q", i+1, got, err, text)
		}
	}
	if got := b.List(""); len(got) != len(want) {
		t.Errorf("at %q lie things, not at %d versions", got, len(want))
	}
}

// loaded is a table that is there.
func loaded(t *testing.T, b *bucket.Bucket, version int) api.Snapshot {
	t.Helper()
	s, err := commit.Load(b, version)
	if err != nil {
		t.Fatalf("Load of %d: %v", version, err)
	}
	return s
}

// wantTable says whether a version is just that table; an empty list may be nil or not.
func wantTable(t *testing.T, b *bucket.Bucket, version int, want api.Snapshot) {
	t.Helper()
	s, err := commit.Load(b, version)
	if g, w := fmt.Sprintf("%+v", s), fmt.Sprintf("%+v", want); g != w || err != nil {
		t.Errorf("Load of %d is %s, %v, not %s", version, g, err, w)
	}
}

// wantNoTable says whether a version tells just that error, at no place, and no table beside it.
func wantNoTable(t *testing.T, b *bucket.Bucket, version int, want api.Errno) {
	t.Helper()
	s, err := commit.Load(b, version)
	wantErr(t, fmt.Sprint("Load of ", version), err, want, -1)
	if !reflect.DeepEqual(s, api.Snapshot{}) {
		t.Errorf("Load of %d is %+v beside an error", version, s)
	}
}

const (
	start  = "commit t blind\nschema 3 1 a 1 may null\n"
	files  = "commit t blind\nadd f 6\nadd g 3\n"
	masked = "commit u reads\nmask f 1,4\nremove g\n"
	wider  = "commit v blind\nschema 4 1 a 1 may null;3 b 2 must 'x'\nadd h 60\n"
	empty  = "commit t blind\n"
)

// 8.1: each version is what was done up to it; below 0 is the last one; 0 is the zero Snapshot.
func TestLoad(t *testing.T) {
	b := with(t, start, files, masked, wider, empty)
	a := []api.Column{{ID: 1, Name: "a", Kind: api.Int}}
	both := append(a, api.Column{ID: 3, Name: "b", Kind: api.Text, Must: true, Default: api.Value{Kind: api.Text, Text: "x"}})
	f, g, h := api.Entry{Path: "f", Rows: 6}, api.Entry{Path: "g", Rows: 3}, api.Entry{Path: "h", Rows: 60}
	less := api.Entry{Path: "f", Rows: 6, Mask: []int{1, 4}}
	last := api.Snapshot{Version: 5, Columns: both, Next: 4, Files: []api.Entry{less, h}}
	for range 2 {
		wantTable(t, b, 0, api.Snapshot{})
		wantTable(t, b, 1, api.Snapshot{Version: 1, Columns: a, Next: 3})
		wantTable(t, b, 2, api.Snapshot{Version: 2, Columns: a, Next: 3, Files: []api.Entry{f, g}})
		wantTable(t, b, 3, api.Snapshot{Version: 3, Columns: a, Next: 3, Files: []api.Entry{less}})
		wantTable(t, b, 4, api.Snapshot{Version: 4, Columns: both, Next: 4, Files: []api.Entry{less, h}})
		wantTable(t, b, 5, last)
		for _, version := range []int{-1, -2, -6, math.MinInt} {
			wantTable(t, b, version, last)
		}
		for _, version := range []int{6, 7, 201, math.MaxInt} {
			wantNoTable(t, b, version, api.ErrMissing)
		}
	}
	wantTexts(t, b, start, files, masked, wider, empty)
}

// 8.1: an empty bucket, and one in which other things lie, has the zero Snapshot alone.
func TestLoadNothing(t *testing.T) {
	other := &bucket.Bucket{}
	for _, key := range []string{"log/000000", "log/1", "log/00001", "log/0000001", "log/", "data/000001", "log/000002", "000001", "Log/000001"} {
		if err := other.Put(key, "x"); err != nil {
			t.Fatal(err)
		}
	}
	for _, b := range []*bucket.Bucket{{}, other, nil} {
		for _, version := range []int{0, -1, -2, math.MinInt} {
			wantTable(t, b, version, api.Snapshot{})
		}
		for _, version := range []int{1, 2, 200, math.MaxInt} {
			wantNoTable(t, b, version, api.ErrMissing)
		}
	}
}

// 8.1: what lies behind a version at which nothing is, is not reached.
func TestLoadGap(t *testing.T) {
	for _, behind := range []string{files, "x", "commit t blind\nremove none\n"} {
		b := with(t, start, empty, behind)
		if err := b.Delete(number(2)); err != nil {
			t.Fatal(err)
		}
		want := api.Snapshot{Version: 1, Columns: []api.Column{{ID: 1, Name: "a", Kind: api.Int}}, Next: 3}
		wantTable(t, b, -1, want)
		wantTable(t, b, 1, want)
		wantTable(t, b, 0, api.Snapshot{})
		for _, version := range []int{2, 3, 4} {
			wantNoTable(t, b, version, api.ErrMissing)
		}
	}
}

// noCommits are texts that Print never tells.
func noCommits() []string {
	return []string{
		"", "x", "\n", "commit t blind", "commit t blind\n\n", " commit t blind\n", "commit T blind\n", "commit t read\n", "commit t blind\nadd f 0\n", "commit t blind\nadd h 01\n",
		"commit t blind\r\n", "commit t blind\nadd h 1", "commit t blind\nschema 2 2 a 1 may null\n", "commit t blind\nmask f 1,0\n", empty + empty, "\x00", "\xff",
	}
}

// notDone are commits that can't be done behind start and files.
func notDone() []string {
	l := []string{"t blind"}
	for i := range 39 {
		l = append(l, fmt.Sprint("add x", i, " 1"))
	}
	return []string{
		by("t blind", "add f 1"), by("t blind", "remove h"), by("t blind", "mask h 0"), by("t blind", "mask f 6"), by("t blind", "mask g 0,3"),
		by("t blind", "schema 2 1 a 1 may null"), by("t blind", "mask f 0", "mask f 0"), by("t blind", "add h 1", "add h 1"), by("t reads", "remove f", "remove f"), by(l...),
	}
}

// 8.1: what lies there is no commit, or can't be done: that is told from that version on, at no place, whatever lies behind it; ahead of it all is well.
func TestLoadForm(t *testing.T) {
	for _, wrong := range append(noCommits(), notDone()...) {
		for _, b := range []*bucket.Bucket{with(t, start, files, wrong), with(t, start, files, wrong, empty), with(t, start, files, wrong, "x")} {
			for version := range 3 {
				if s := loaded(t, b, version); s.Version != version {
					t.Errorf("Load of %d is version %d", version, s.Version)
				}
			}
			for _, version := range []int{3, 4, 5, math.MaxInt, -1, math.MinInt} {
				wantNoTable(t, b, version, api.ErrForm)
			}
		}
	}
	for _, wrong := range append(noCommits(), files, by("t blind", "remove f"), by("t blind", "mask f 0")) {
		b := with(t, wrong)
		wantTable(t, b, 0, api.Snapshot{})
		wantNoTable(t, b, 1, api.ErrForm)
		wantNoTable(t, b, 2, api.ErrForm)
		wantNoTable(t, b, -1, api.ErrForm)
	}
}

// 8.1: Load has no bound of its own: as long as there is something.
func TestLoadMany(t *testing.T) {
	b := with(t, slices.Repeat([]string{empty}, 1000)...)
	for version, want := range map[int]int{-1: 1000, 0: 0, 199: 199, 200: 200, 201: 201, 999: 999, 1000: 1000} {
		wantTable(t, b, version, api.Snapshot{Version: want})
	}
	wantNoTable(t, b, 1001, api.ErrMissing)
}

// P2, P4: Load changes nothing, uses no fault up, and each answer is the caller's.
func TestLoadKeepsOff(t *testing.T) {
	texts := []string{start, files, masked, wider}
	b := with(t, texts...)
	b.Faults([]int{bucket.Lost})
	was := fmt.Sprintf("%+v", loaded(t, b, -1))
	s := loaded(t, b, -1)
	s.Columns[0].Name, s.Files[0].Path, s.Files[0].Mask[0] = "spoilt", "spoilt", 99
	_ = append(s.Files[:1], api.Entry{Path: "spoilt"})
	if now := fmt.Sprintf("%+v", loaded(t, b, -1)); now != was {
		t.Errorf("Load is %s, not %s, once the first answer is written into", now, was)
	}
	wantNoTable(t, b, 9, api.ErrMissing)
	wantTexts(t, b, texts...)
	wantErr(t, "Put", b.Put("a", "x"), api.ErrDevice, -1)
}
