// Package guard: what keeps a call that looks at conditions from going on for ever, and from panicking, whatever it is given.
package guard

import "millpond/api"

// deepest is how many others a condition may lie in and still be looked at. The document allows 20, but the longest text of a condition comes to 23. There is a bound at all so that a call ends on conditions that go round, or that share their parts over and over.
const deepest = 24

// Ends says whether a condition may be looked at: no part of it lies too deep.
func Ends(c *api.Cond) bool {
	return within(c, deepest)
}

// within says whether no part of a condition lies in more than so many others.
func within(c *api.Cond, others int) bool {
	if c == nil {
		return true
	}
	return others >= 0 && within(c.Left, others-1) && within(c.Right, others-1)
}

// Told is what get tells of a column. No call may panic, but get is the caller's: if it is nil, or panics, it has told nothing.
func Told[T any](get func(column string) T, column string) (told T) {
	defer func() {
		if recover() != nil {
			var nothing T
			told = nothing
		}
	}()
	return get(column)
}
