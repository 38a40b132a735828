package lexspec

import (
	"slices"

	"emendate/api"
	"emendate/dfa"
	"emendate/nfa"
)

// build checks spec and returns an automaton, not the minimal one, whose runs yield the kinds of all strings. If spec is not valid it returns what Check returns.
func build(spec api.LexSpec) (api.DFA, int, api.Errno) {
	if len(spec.Defs) < 1 || len(spec.Defs) > api.MaxDefs {
		return api.DFA{}, 0, api.ErrLimit
	}
	patterns, index, err := parsePatterns(spec.Defs)
	if err != api.OK {
		return api.DFA{}, index, err
	}
	if !isPrice(spec.Misspelling) || !isPrice(spec.Unclosed) {
		return api.DFA{}, len(spec.Defs), api.ErrArg
	}
	d, err := automaton(patterns)
	if err != api.OK {
		return api.DFA{}, 0, err
	}
	if index, err := checkSamples(spec.Defs, patterns, d); err != api.OK {
		return api.DFA{}, index, err
	}
	return d, 0, api.OK
}

func isPrice(n int) bool { return n >= 0 && n <= api.MaxPrice }

// automaton returns an automaton whose run on a string yields the least index of a pattern that matches it, or api.ErrLimit if that is too large.
func automaton(patterns []api.Regex) (api.DFA, api.Errno) {
	n, err := nfa.FromRegexes(patterns)
	if err != api.OK {
		return api.DFA{}, err
	}
	return dfa.Determinize(n)
}

// checkSamples returns the index and the error of the first definition whose sample is not of its kind or, for a keyword, is not all that its pattern matches. The runs of d yield the kinds.
func checkSamples(defs []api.TokenDef, patterns []api.Regex, d api.DFA) (int, api.Errno) {
	for i, def := range defs {
		err := firstError(
			func() api.Errno { return require(dfa.Run(d, def.Sample) == i, api.ErrMismatch) },
			func() api.Errno {
				return require(def.Kind != api.TokenKeyword || matchesOnly(patterns[i], def.Sample), api.ErrConflict)
			},
		)
		if err != api.OK {
			return i, err
		}
	}
	return 0, api.OK
}

// matchesOnly reports whether a pattern matches no string but s, which it matches. It requires a pattern of a list that has an automaton.
func matchesOnly(pattern api.Regex, s string) bool {
	if len(s) >= api.MaxStates {
		return false // a state is visited twice, and the bytes between the two visits can be repeated
	}
	d, _ := automaton([]api.Regex{pattern}) // whose states are no more than those for the list
	_, differ := dfa.Difference(d, path(s))
	return !differ
}

// path returns the automaton that accepts 0 for s, which must have less than api.MaxStates bytes, and nothing for other strings.
func path(s string) api.DFA {
	const classes = 256 // one for each byte
	var d api.DFA
	for class := range classes {
		d.Class = append(d.Class, class)
	}
	for state := range len(s) + 1 {
		row := slices.Repeat([]int{-1}, classes)
		if state < len(s) {
			row[s[state]] = state + 1
		}
		d.Next = append(d.Next, row)
		d.Accept = append(d.Accept, -1)
	}
	d.Accept[len(s)] = 0
	return d
}
