package plan_test

import (
	"fmt"
	"math"
	"slices"
	"testing"

	"millpond/api"
	"millpond/bucket"
	"millpond/commit"
	"millpond/log"
	"millpond/plan"
	"millpond/scan"
)

// wantVersion says whether what was planned is done at just that version.
func wantVersion(t *testing.T, what string, b *bucket.Bucket, p *plan.Plan, want int) {
	t.Helper()
	if version, err := plan.Do(b, p); version != want || err != nil {
		t.Errorf("%s: Do is %d, %v, not %d", what, version, err, want)
	}
}

// wantNotDone says whether Do tells just that error, and changes nothing.
func wantNotDone(t *testing.T, what string, b *bucket.Bucket, p *plan.Plan, want api.Errno, at int) {
	t.Helper()
	was := all(b)
	version, err := plan.Do(b, p)
	wantErr(t, what, err, want, at)
	if version != 0 {
		t.Errorf("%s: Do is %d beside an error", what, version)
	}
	if now := all(b); now != was {
		t.Errorf("%s: in the bucket lies %s, not %s", what, now, was)
	}
}

// planned is a plan of which nothing is wrong.
func planned(t *testing.T) func(p *plan.Plan, err error) *plan.Plan {
	return func(p *plan.Plan, err error) *plan.Plan {
		t.Helper()
		if err != nil {
			t.Fatalf("no plan: %v", err)
		}
		return p
	}
}

// 11.4: Do is Try of what was seen and planned: the commit lies at the next version.
func TestDo(t *testing.T) {
	ok := planned(t)
	b := &bucket.Bucket{}
	for i, want := range []string{
		by("t blind", "schema 2 1 a 1 may null"), by("t blind", "add t_0 3"), by("u reads", "mask t_0 0"), by("v reads", "add v_0 1", "mask t_0 1"),
		by("w reads", "remove t_0", "remove v_0", "add w_0 2"), by("t blind", "schema 2 1 b 1 may null"),
	} {
		version := i + 1
		switch version {
		case 1:
			wantVersion(t, "Create", b, ok(plan.Create(b, "t", []api.Column{numbers(0, "a")})), version)
		case 2:
			wantVersion(t, "Insert", b, ok(plan.Insert(b, "t", counted(1, 3))), version)
		case 3:
			wantVersion(t, "Delete", b, ok(plan.Delete(b, "u", cond(t, "a = 1"))), version)
		case 4:
			wantVersion(t, "Update", b, ok(plan.Update(b, "v", cond(t, "a = 2"), set(num(9)))), version)
		case 5:
			wantVersion(t, "Compact", b, ok(plan.Compact(b, "w")), version)
		case 6:
			wantVersion(t, "Alter", b, ok(plan.Alter(b, "t", plan.Change{Kind: plan.Called, Name: "a", To: "b"})), version)
		}
		if s, err := b.Get(log.Key(version)); s != want || err != nil {
			t.Errorf("at version %d lies %q, %v, not %q", version, s, err, want)
		}
	}
	wantRows(t, "Do", b, row(num(3)), row(num(9)))
}

// 11.4: a plan of no actions is the version that was seen, also if others were there since, or a put would go wrong; nothing is done.
func TestDoNothing(t *testing.T) {
	ok := planned(t)
	b := three(t)
	none := []*plan.Plan{ok(plan.Delete(b, "t", cond(t, "a = 0"))), ok(plan.Update(b, "t", cond(t, "a = 0"), set(text("x"))))}
	deletes(t, b, "u", "a > 3")
	none = append(none, ok(plan.Compact(b, "t")))
	alters(t, b, plan.Change{Kind: plan.Called, Name: "a", To: "b"})
	was := all(b)
	b.Faults([]int{bucket.Lost})
	for i, p := range none {
		wantVersion(t, "nothing", b, p, 4+i/2)
	}
	if now := all(b); now != was {
		t.Errorf("in the bucket lies %s, not %s", now, was)
	}
	wantErr(t, "Put", b.Put("k", "x"), api.ErrDevice, -1)
}

// P1: where no plan came, there is nothing to be done.
func TestDoNil(t *testing.T) {
	for _, b := range []*bucket.Bucket{nil, {}, three(t)} {
		wantNotDone(t, "nil", b, nil, api.ErrArg, -1)
	}
}

// 11.4: Try's errors.
func TestDoErrors(t *testing.T) {
	ok := planned(t)
	b := three(t)
	remove := ok(plan.Delete(b, "t", cond(t, "a > 10")))
	wider := ok(plan.Alter(b, "u", plan.Change{Kind: plan.More, Column: words(0, "b")}))
	wantVersion(t, "Delete", b, remove, 5)
	wantNotDone(t, "once more", b, remove, api.ErrState, -1)
	wantNotDone(t, "columns behind rows", b, wider, api.ErrState, -1)
	b.Faults([]int{bucket.Lost, bucket.Done})
	insert := ok(plan.Insert(created(t, numbers(1, "a")), "v", counted(1, 1)))
	insert.Seen = loaded(t, b, -1)
	wantNotDone(t, "lost", b, insert, api.ErrDevice, -1)
	wantVersion(t, "done", b, insert, 6)
	insert.Seen = loaded(t, b, -1)
	wantNotDone(t, "a file that is there", b, insert, api.ErrTwice, 0)
	lay(t, b, log.Key(7), "x")
	next := &plan.Plan{Seen: insert.Seen, Commit: api.Commit{Tx: "w", Actions: []api.Action{{Kind: api.Mask, Path: "z_0", Mask: []int{0}}}}}
	wantNotDone(t, "no commit is there", b, next, api.ErrForm, -1)
	wantNotDone(t, "what can't be written", b, &plan.Plan{Commit: api.Commit{Tx: "W", Actions: next.Commit.Actions}}, api.ErrArg, -1)
}

// 11.4: as many files, and commits, as may be; one more is ErrFull.
func TestDoFull(t *testing.T) {
	ok := planned(t)
	b := created(t, numbers(1, "a"))
	for i := range api.MaxFiles {
		inserts(t, b, fmt.Sprint("t", i), counted(i, 1))
	}
	wantNotDone(t, "one file more", b, ok(plan.Insert(b, "u", counted(1, 1))), api.ErrFull, 0)
	wantNotDone(t, "one that is added before others go", b, ok(plan.Update(b, "v", nil, set(num(0)))), api.ErrFull, 0)
	p, err := plan.Compact(b, "w")
	does(t, b, p, err)
	wantRows(t, "put together", b, counted(0, api.MaxFiles)...)
	name, to := "a", "b"
	for version := len(b.List("log/")) + 1; version <= api.MaxCommits; version++ {
		wantVersion(t, "Alter", b, ok(plan.Alter(b, "x", plan.Change{Kind: plan.Called, Name: name, To: to})), version)
		name, to = to, name
	}
	wantNotDone(t, "one commit more", b, ok(plan.Delete(b, "y", nil)), api.ErrFull, -1)
}

// Who writes at once writes one after the other: of two who plan of one version the second one is done behind the first one, as if it had been planned then, or is ErrState.
func TestTogether(t *testing.T) {
	second := []planner{
		{"Insert", func(b *bucket.Bucket, tx string) (*plan.Plan, error) { return plan.Insert(b, tx, counted(50, 2)) }},
		{"Delete", func(b *bucket.Bucket, tx string) (*plan.Plan, error) { return plan.Delete(b, tx, cond(t, "a < 3")) }},
		{"Delete of all", func(b *bucket.Bucket, tx string) (*plan.Plan, error) { return plan.Delete(b, tx, nil) }},
		{"Update", func(b *bucket.Bucket, tx string) (*plan.Plan, error) {
			return plan.Update(b, tx, cond(t, "a > 9"), set(num(0)))
		}},
		{"Compact", plan.Compact},
		{"Alter", func(b *bucket.Bucket, tx string) (*plan.Plan, error) {
			return plan.Alter(b, tx, plan.Change{Kind: plan.More, Column: words(0, "b")})
		}},
	}
	for _, x := range second {
		for _, y := range second {
			b, alone := three(t), three(t)
			ok := planned(t)
			p, q := ok(x.plan(b, "p")), ok(y.plan(b, "q"))
			wantVersion(t, x.name, b, p, 5)
			if x.name == "Alter" || y.name != "Insert" {
				wantNotDone(t, y.name+" behind "+x.name, b, q, api.ErrState, -1)
				continue
			}
			wantVersion(t, y.name+" behind "+x.name, b, q, 6)
			wantVersion(t, x.name, alone, ok(x.plan(alone, "p")), 5)
			wantVersion(t, y.name, alone, ok(y.plan(alone, "q")), 6)
			if all(b) != all(alone) {
				t.Errorf("%s behind %s: in the bucket lies %s, not %s", y.name, x.name, all(b), all(alone))
			}
		}
	}
}

// Never half: whatever goes wrong with the puts, a table is as it was, or as it was to be, and which of both it is is told.
func TestNeverHalf(t *testing.T) {
	kinds := []int{bucket.Fine, bucket.Lost, bucket.Done}
	for code := range 27 {
		faults := []int{kinds[code%3], kinds[code/3%3], kinds[code/9]}
		for _, x := range planners()[2:] {
			b := three(t)
			was, files := fmt.Sprint(rows(t, b, -1)), fmt.Sprint(loaded(t, b, -1).Files)
			whole := three(t)
			p, err := x.plan(whole, "t")
			does(t, whole, p, err)
			b.Faults(faults)
			version := 0
			p, err = x.plan(b, "t")
			if err == nil {
				version, err = plan.Do(b, p)
			}
			now, after := fmt.Sprint(rows(t, b, -1)), fmt.Sprint(loaded(t, b, -1).Files)
			switch {
			case err == nil && (all(b) != all(whole) || version != 5):
				t.Errorf("%s, %v: in the bucket lies %s, not %s", x.name, faults, all(b), all(whole))
			case err != nil && (now != was || after != files || version != 0 || api.Tell(err) != api.ErrDevice):
				t.Errorf("%s, %v: %v: the rows are %s, not %s", x.name, faults, err, now, was)
			}
		}
	}
}

// wantWent says whether so many files go, and just these stay.
func wantWent(t *testing.T, b *bucket.Bucket, from, want int, stay ...string) {
	t.Helper()
	logged := b.List("log/")
	went, err := plan.Vacuum(b, from)
	if went != want || err != nil {
		t.Errorf("Vacuum from %d is %d, %v, not %d", from, went, err, want)
	}
	var keys []string
	for _, path := range stay {
		keys = append(keys, scan.Key(path))
	}
	if got := b.List("data/"); !slices.Equal(got, keys) {
		t.Errorf("Vacuum from %d: there are %q, not %q", from, got, keys)
	}
	if got := b.List("log/"); !slices.Equal(got, logged) {
		t.Errorf("Vacuum from %d: there are %q, not %q", from, got, logged)
	}
}

// history is a table at version 6: t_0 is there from version 2 to 3, u_0 from 3 on, v_0 at 4 alone, w_0 from 6 on; x_0 is yet to be added.
func history(t *testing.T) *bucket.Bucket {
	t.Helper()
	b := created(t, numbers(1, "a"))
	inserts(t, b, "t", counted(1, 1))
	inserts(t, b, "u", counted(2, 2))
	p, err := plan.Update(b, "v", cond(t, "a = 1"), set(num(9)))
	does(t, b, p, err)
	deletes(t, b, "d", "a = 9")
	inserts(t, b, "w", counted(4, 1))
	if _, err := plan.Insert(b, "x", counted(5, 1)); err != nil {
		t.Fatal(err)
	}
	return b
}

// 11.4: files go that a version had, but none from one on; others stay, also those that no version had.
func TestVacuum(t *testing.T) {
	for _, x := range []struct {
		from, went int
		stay       []string
	}{
		{math.MinInt, 0, []string{"t_0", "u_0", "v_0", "w_0", "x_0"}},
		{-1, 0, []string{"t_0", "u_0", "v_0", "w_0", "x_0"}},
		{0, 0, []string{"t_0", "u_0", "v_0", "w_0", "x_0"}},
		{1, 0, []string{"t_0", "u_0", "v_0", "w_0", "x_0"}},
		{3, 0, []string{"t_0", "u_0", "v_0", "w_0", "x_0"}},
		{4, 1, []string{"u_0", "v_0", "w_0", "x_0"}},
		{5, 2, []string{"u_0", "w_0", "x_0"}},
		{6, 2, []string{"u_0", "w_0", "x_0"}},
		{7, 2, []string{"u_0", "w_0", "x_0"}},
		{math.MaxInt, 2, []string{"u_0", "w_0", "x_0"}},
	} {
		b := history(t)
		wantWent(t, b, x.from, x.went, x.stay...)
		wantWent(t, b, x.from, 0, x.stay...) // nothing goes twice
		wantRows(t, "Vacuum", b, counted(2, 3)...)
		for version := max(min(x.from, 6), 0); version <= 6; version++ {
			rows(t, b, version)
		}
	}
	wantWent(t, &bucket.Bucket{}, 5, 0)
	wantWent(t, created(t, numbers(1, "a")), 5, 0)
}

// 11.4: step by step; a file that is not there any more is none that goes; one that came again stays.
func TestVacuumAgain(t *testing.T) {
	b := history(t)
	if err := b.Delete("data/t_0"); err != nil {
		t.Fatal(err)
	}
	wantWent(t, b, 4, 0, "u_0", "v_0", "w_0", "x_0")
	wantWent(t, b, 5, 1, "u_0", "w_0", "x_0")
	inserts(t, b, "t", counted(7, 2)) // t_0 is there again, from version 7 on
	wantWent(t, b, 7, 0, "t_0", "u_0", "w_0", "x_0")
	deletes(t, b, "d2", "")
	wantWent(t, b, 7, 0, "t_0", "u_0", "w_0", "x_0")
	wantWent(t, b, 8, 3, "x_0")
	wantRows(t, "Vacuum", b)
	if _, _, err := scan.All(b, loaded(t, b, 7), nil); api.Tell(err) != api.ErrMissing {
		t.Errorf("what went is %v", err)
	}
}

// 11.4: a file that a commit adds and removes at once no version had; nor one that was only put. Other things in the bucket stay.
func TestVacuumNever(t *testing.T) {
	b := created(t, numbers(1, "a"))
	lay(t, b, log.Key(2), by("t blind", "add f 1", "remove f", "add g 1"))
	lay(t, b, log.Key(3), by("t blind", "remove g", "add g 2"))
	lay(t, b, log.Key(4), by("t blind", "remove g"))
	for _, path := range []string{"f", "g", "g0", ""} {
		lay(t, b, scan.Key(path), "x")
	}
	lay(t, b, "g", "x")
	wantWent(t, b, 3, 0, "", "f", "g", "g0")
	wantWent(t, b, 4, 1, "", "f", "g0")
	if s, err := b.Get("g"); s != "x" || err != nil {
		t.Errorf("at g lies %q, %v", s, err)
	}
}

// 11.4: Load's errors; nothing goes then.
func TestVacuumErrors(t *testing.T) {
	for _, s := range []string{"", "x", by("t blind", "remove f"), by("t blind", "add u_0 1")} {
		b := history(t)
		lay(t, b, log.Key(7), s)
		was := all(b)
		for _, from := range []int{-1, 0, 5, 6, 7} {
			went, err := plan.Vacuum(b, from)
			wantErr(t, "Vacuum", err, api.ErrForm, -1)
			if went != 0 {
				t.Errorf("Vacuum is %d beside an error", went)
			}
		}
		if now := all(b); now != was {
			t.Errorf("in the bucket lies %s, not %s", now, was)
		}
	}
}

// 11.4: who is about to add a file finds it there, also if somebody vacuums meanwhile; and no fault is used up.
func TestVacuumMeanwhile(t *testing.T) {
	b := history(t)
	p, err := plan.Insert(b, "y", counted(8, 1))
	if err != nil {
		t.Fatal(err)
	}
	b.Faults([]int{bucket.Lost})
	wantWent(t, b, 6, 2, "u_0", "w_0", "x_0", "y_0")
	wantErr(t, "Put", b.Put("k", "x"), api.ErrDevice, -1)
	wantVersion(t, "Insert", b, p, 7)
	wantRows(t, "Vacuum", b, row(num(2)), row(num(3)), row(num(4)), row(num(8)))
	if _, err := commit.Load(b, -1); err != nil {
		t.Error(err)
	}
}
