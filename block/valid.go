package block

import (
	"bytes"

	"burnish/api"
	"burnish/inflate"
)

// isValid tells whether a block is of a kind, and its tokens stand for its text.
func isValid(b Block) bool {
	switch b.Kind {
	case stored:
		return len(b.Text) <= mostStored && standFor(b.Tokens, b.Text)
	case fixed, dynamic:
		return standFor(b.Tokens, b.Text)
	}
	return false
}

// standFor tells whether all tokens are valid, and stand for a text where some text precedes it.
func standFor(tokens []api.Token, text []byte) bool {
	at := 0
	for _, t := range tokens {
		end := at + max(t.Len, 1)
		// What isn't a token may have any length, so its end is only asked for behind that.
		if !isToken(t) || end > len(text) || !agrees(t, text, at, end) {
			return false
		}
		at = end
	}
	return at == len(text)
}

// agrees tells whether a token stands for what a text has from a place to another.
func agrees(t api.Token, text []byte, at, end int) bool {
	if t.Len == 0 {
		return int(text[at]) == t.Dist
	}
	// What is repeated from before the text isn't known here.
	from := max(at, t.Dist)
	return from >= end || bytes.Equal(text[from:end], text[from-t.Dist:end-t.Dist])
}

// areTokens tells whether all tokens are valid.
func areTokens(tokens []api.Token) bool {
	for _, t := range tokens {
		if !isToken(t) {
			return false
		}
	}
	return true
}

// isToken tells whether a token is a literal byte, or a match.
func isToken(t api.Token) bool {
	if t.Len == 0 {
		return 0 <= t.Dist && t.Dist <= 255
	}
	_, long := inflate.LengthSymbol(t.Len)
	_, far := inflate.DistSymbol(t.Dist)
	return long && far
}
