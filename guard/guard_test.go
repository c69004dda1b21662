package guard_test

import (
	"testing"

	"millpond/api"
	"millpond/guard"
)

// inOthers is a condition that lies in so many others, as their Left or their Right.
func inOthers(n int, right bool) *api.Cond {
	c := &api.Cond{Code: api.Eq, Column: "a", Value: api.Value{Kind: api.Int}}
	for range n {
		if right {
			c = &api.Cond{Code: api.And, Right: c}
		} else {
			c = &api.Cond{Code: api.Not, Left: c}
		}
	}
	return c
}

// 1.2: one may lie in 20 others; and the longest text of a condition makes it 23.
func TestEnds(t *testing.T) {
	if !guard.Ends(nil) {
		t.Error("nil may not be looked at")
	}
	for _, right := range []bool{false, true} {
		for _, n := range []int{0, 1, 20, 21, 23} {
			if !guard.Ends(inOthers(n, right)) {
				t.Errorf("what lies in %d others may not be looked at", n)
			}
		}
		for _, n := range []int{100, 1 << 16} {
			if guard.Ends(inOthers(n, right)) {
				t.Errorf("what lies in %d others may be looked at", n)
			}
		}
	}
}

// P1: conditions that go round, or share their parts over and over.
func TestEndsSoon(t *testing.T) {
	left, right := &api.Cond{Code: api.Not}, &api.Cond{Code: api.And}
	left.Left, right.Right = left, right
	wide := inOthers(0, false)
	for range 64 {
		wide = &api.Cond{Code: api.Or, Left: wide, Right: wide}
	}
	for _, c := range []*api.Cond{left, right, wide} {
		if guard.Ends(c) {
			t.Errorf("a condition of code %d that does not end soon may be looked at", c.Code)
		}
	}
}

// P1: a get that is nil, or panics, tells nothing; any other is asked for its column.
func TestTold(t *testing.T) {
	if got := guard.Told(func(column string) int { return len(column) }, "abc"); got != 3 {
		t.Errorf("Told is %d, not what get tells", got)
	}
	for _, get := range []func(string) int{
		nil,
		func(string) int { panic("no such column") },
		func(string) int { panic(nil) },
		func(s string) int { return int(s[len(s)]) },
	} {
		if got := guard.Told(get, "abc"); got != 0 {
			t.Errorf("Told of a get that fails is %d", got)
		}
	}
}
