package lexrepair

import (
	"slices"

	"emendate/api"
	"emendate/dfa"
	"emendate/nfa"
	"emendate/regex"
)

// A closer is a definition whose tokens may lack their closing delimiter.
type closer struct {
	kind      int
	delimiter string
	pattern   api.DFA
}

// closersOf returns the closers of spec in the order of their kinds.
func closersOf(spec api.LexSpec) []closer {
	if spec.Unclosed <= 0 {
		return nil
	}
	var closers []closer
	for kind, def := range spec.Defs {
		if def.Kind != api.TokenSkip && def.Close != "" {
			closers = append(closers, closer{kind: kind, delimiter: def.Close, pattern: automaton(def.Pattern)})
		}
	}
	return closers
}

// automaton returns an automaton that accepts what the pattern matches. Unlike an expression, it reads a text only up to where no match can begin like it, so that the many error tokens of one line can all be tried.
func automaton(pattern string) api.DFA {
	// Only an invalid specification has errors here. They lead to an automaton that accepts nothing.
	r, _, _ := regex.Parse(pattern)
	n, _ := nfa.FromRegexes([]api.Regex{r})
	d, _ := dfa.Determinize(n)
	return d
}

// closes reports whether s lacks nothing but the delimiter.
func (c closer) closes(s string) bool { return dfa.Run(c.pattern, s+c.delimiter) >= 0 }

// closable reports whether one of the closers closes s.
func closable(closers []closer, s string) bool {
	return slices.ContainsFunc(closers, func(c closer) bool { return c.closes(s) })
}
