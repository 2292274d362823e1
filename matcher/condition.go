package matcher

import (
	"porter/api"
	"porter/match"
	"porter/regex"
)

// condition is what a matcher requires of a value.
type condition interface {
	wrong() api.Errno
	holds(value string) bool
}

// word requires one value.
type word string

func (w word) wrong() api.Errno {
	if len(w) > api.MaxValue {
		return api.ErrLimit
	}
	return api.OK
}

func (w word) holds(value string) bool {
	return value == string(w)
}

// pattern requires a value that a regular expression matches.
type pattern string

func (p pattern) wrong() api.Errno {
	_, f := regex.Parse(string(p))
	return f.E
}

func (p pattern) holds(value string) bool {
	n, f := regex.Parse(string(p))
	return f.E == api.OK && match.Match(n, value)
}

// opposite requires what another condition refuses.
type opposite struct {
	of condition
}

func (o opposite) wrong() api.Errno {
	return o.of.wrong()
}

func (o opposite) holds(value string) bool {
	return !o.of.holds(value)
}

// conditionOf returns the condition of a matcher, or nil if its operator is invalid.
func conditionOf(m api.Matcher) condition {
	switch m.Op {
	case api.Is:
		return word(m.Value)
	case api.Not:
		return opposite{of: word(m.Value)}
	case api.Like:
		return pattern(m.Value)
	case api.Unlike:
		return opposite{of: pattern(m.Value)}
	}
	return nil
}

// sign returns the operator of a condition.
func sign(c condition) string {
	if c == nil {
		return "?"
	}
	if o, ok := c.(opposite); ok {
		if _, ok := o.of.(pattern); ok {
			return "!~"
		}
		return "!="
	}
	if _, ok := c.(pattern); ok {
		return "=~"
	}
	return "="
}
