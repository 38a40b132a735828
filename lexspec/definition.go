package lexspec

import (
	"slices"

	"emendate/api"
	"emendate/regex"
)

// A condition returns api.OK if it holds, and otherwise the error that belongs to it.
type condition func() api.Errno

// firstError returns the error of the first condition that does not hold. It leaves out the conditions behind that one, which may rely on it.
func firstError(l ...condition) api.Errno {
	for _, check := range l {
		if err := check(); err != api.OK {
			return err
		}
	}
	return api.OK
}

// require returns err unless what is required holds.
func require(holds bool, err api.Errno) api.Errno {
	if holds {
		return api.OK
	}
	return err
}

// parsePatterns returns the patterns of all definitions, or the index and the error of the first one that is not valid. It leaves out the conditions on samples, for which all patterns are needed.
func parsePatterns(defs []api.TokenDef) ([]api.Regex, int, api.Errno) {
	var patterns []api.Regex
	for i, def := range defs {
		pattern, err := parsePattern(defs[:i], def)
		if err != api.OK {
			return nil, i, err
		}
		patterns = append(patterns, pattern)
	}
	return patterns, 0, api.OK
}

// parsePattern returns the pattern of a definition, or the error of the first condition that does not hold for it.
func parsePattern(earlier []api.TokenDef, def api.TokenDef) (api.Regex, api.Errno) {
	var pattern api.Regex
	err := firstError(
		func() api.Errno {
			return require(isName(def.Name) && !slices.Contains(layoutNames(), def.Name), api.ErrName)
		},
		func() api.Errno {
			same := func(other api.TokenDef) bool { return other.Name == def.Name }
			return require(!slices.ContainsFunc(earlier, same), api.ErrDuplicate)
		},
		func() api.Errno { return require(isKind(def.Kind), api.ErrArg) },
		func() (err api.Errno) {
			pattern, _, err = regex.Parse(def.Pattern)
			return err
		},
		func() api.Errno { return require(!regex.Nullable(pattern), api.ErrEmpty) },
		func() api.Errno { return require(isPrintable(def.Close), api.ErrArg) },
	)
	return pattern, err
}

// isName reports whether s is a name.
func isName(s string) bool {
	if len(s) < 1 || len(s) > api.MaxName || !isLetter(s[0]) {
		return false
	}
	for i := range len(s) {
		if !isLetter(s[i]) && !isDigit(s[i]) && s[i] != '_' {
			return false
		}
	}
	return true
}

func isLetter(b byte) bool { return 'A' <= b && b <= 'Z' || 'a' <= b && b <= 'z' }

func isDigit(b byte) bool { return '0' <= b && b <= '9' }

func isKind(kind int) bool {
	return kind == api.TokenPlain || kind == api.TokenSkip || kind == api.TokenKeyword
}

// isPrintable reports whether s consists of printable bytes, as the empty string does.
func isPrintable(s string) bool {
	for i := range len(s) {
		if s[i] < ' ' || s[i] > '~' {
			return false
		}
	}
	return true
}
