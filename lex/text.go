package lex

import "stockpot/api"

const (
	quote  = '"'
	escape = '\\'
)

func firstText(s string) (api.Token, int) {
	var told []byte
	at := 1 // behind the quote
	for at < len(s) && s[at] != quote {
		b, n := toldByte(s[at:])
		if n == 0 || len(told) == api.MaxText {
			return api.Token{}, 0
		}
		told = append(told, b)
		at += n
	}
	if at == len(s) {
		return api.Token{}, 0
	}
	return api.Token{Kind: api.TStr, Text: string(told)}, at + 1
}

// toldByte is the byte that the beginning of s, within a text, tells, and how many bytes of s tell it: 0 if none is told.
func toldByte(s string) (byte, int) {
	if s[0] != escape {
		if !isPlain(s[0]) {
			return 0, 0
		}
		return s[0], 1
	}
	if len(s) == 1 {
		return 0, 0
	}
	switch s[1] {
	case 'n':
		return '\n', 2
	case quote, escape:
		return s[1], 2
	}
	return 0, 0
}

// isPlain is whether the byte may stand in a text: of those, the quote and the escape only behind an escape.
func isPlain(b byte) bool { return ' ' <= b && b <= '~' }
