package lexer

import "emendate/api"

// none is the successor of a state where it has none.
const none = -1

// machine is an automaton and its current state.
type machine struct {
	automaton api.DFA
	state     int
}

// advance reads b and returns what the new state accepts and true, or false if there is no transition.
func (m *machine) advance(b byte) (int, bool) {
	m.state = m.automaton.Next[m.state][m.automaton.Class[b]]
	if m.state == none {
		return 0, false
	}
	return m.automaton.Accept[m.state], true
}

// recognize returns the token at the offset at of s, which is not the end.
func recognize(d api.DFA, s string, at int) api.Token {
	m := machine{automaton: d}
	advance := m.advance
	token := api.Token{Kind: api.KindError, At: at, Text: s[at : at+1]}
	for i := at; i < len(s); i++ {
		token.Look++
		number, ok := advance(s[i])
		if !ok {
			return token
		}
		if number >= 0 {
			token.Kind, token.Text = number, s[at:i+1]
		}
	}
	token.Look++ // the end of the text, which was examined too
	return token
}
