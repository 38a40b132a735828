package relex

import "emendate/api"

// none is the successor of a state where it has none.
const none = -1

// scanner returns a function that returns, from call to call, the tokens of text from the offset at on. It must not be called again when the end is reached.
func scanner(d api.DFA, text string, at int) func() api.Token {
	return func() api.Token {
		token := recognize(d, text[at:])
		token.At = at
		at += len(token.Text)
		return token
	}
}

// recognize returns the first token of text, which is not empty.
func recognize(d api.DFA, text string) api.Token {
	token := api.Token{Kind: api.KindError, Text: text[:1], Look: len(text) + 1}
	state := 0
	for i := range len(text) {
		state = d.Next[state][d.Class[text[i]]]
		if state == none {
			token.Look = i + 1
			return token
		}
		if number := d.Accept[state]; number >= 0 {
			token.Kind, token.Text = number, text[:i+1]
		}
	}
	return token
}
