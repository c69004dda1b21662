package ask

import (
	"millpond/api"
	"millpond/guard"
	"millpond/value"
)

// How closely the parts of a condition stand together, if there is no ( .
const (
	loosely = iota // those of or
	closely        // those of and
	alone          // all else
)

// Print writes a condition (of what Cond told).
func Print(c *api.Cond) (_ string) {
	if !guard.Ends(c) { // Cond told no such one
		return ""
	}
	return written(c)
}

// written asks more closeness of what is on the right: a text is read from the left, so that only with ( one of its kind comes to stand there.
func written(c *api.Cond) string {
	if c == nil {
		return ""
	}
	switch c.Code {
	case api.Or:
		return within(c.Left, loosely) + " or " + within(c.Right, closely)
	case api.And:
		return within(c.Left, closely) + " and " + within(c.Right, alone)
	case api.Not:
		return "not " + within(c.Left, alone)
	case api.IsNull:
		return c.Column + " is null"
	case api.NotNull:
		return c.Column + " is not null"
	}
	return c.Column + " " + markOf(c.Code) + " " + value.Print(c.Value)
}

// within is a part of a condition, with ( if it does not stand together as closely as it must there.
func within(c *api.Cond, least int) string {
	if closeness(c) < least {
		return "(" + written(c) + ")"
	}
	return written(c)
}

func closeness(c *api.Cond) int {
	switch {
	case c != nil && c.Code == api.Or:
		return loosely
	case c != nil && c.Code == api.And:
		return closely
	}
	return alone
}
