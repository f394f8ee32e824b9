package lex

import (
	"strings"

	"stockpot/api"
	"stockpot/arith"
)

// skipped is where the blanks and notes that stand at the place end.
func skipped(s string, at int) int {
	for at < len(s) {
		switch s[at] {
		case ' ', '\t', '\n':
			at++
		case '#':
			at += noteLength(s[at:])
		default:
			return at
		}
	}
	return at
}

// noteLength is how long the note that s begins with is, its line's end left out: that is a blank.
func noteLength(s string) int {
	if n := strings.IndexByte(s, '\n'); n >= 0 {
		return n
	}
	return len(s)
}

// first is the token that s, which is not empty, begins with, and how many bytes of s it takes: 0 if there is none. Where it begins is left to be set.
func first(s string) (api.Token, int) {
	switch {
	case isLetter(s[0]):
		return firstWord(s)
	case isDigit(s[0]):
		return firstInt(s)
	case s[0] == quote:
		return firstText(s)
	}
	return firstSign(s)
}

func firstWord(s string) (api.Token, int) {
	n := 0
	for n < len(s) && (isLetter(s[n]) || isDigit(s[n])) {
		n++
	}
	if n > api.MaxName {
		return api.Token{}, 0
	}
	return api.Token{Kind: wordKind(s[:n]), Text: s[:n]}, n
}

func firstInt(s string) (api.Token, int) {
	n := 0
	for n < len(s) && isDigit(s[n]) {
		n++
	}
	if n < len(s) && isLetter(s[n]) {
		return api.Token{}, 0
	}
	if _, ok := arith.Parse(s[:n]); !ok {
		return api.Token{}, 0
	}
	return api.Token{Kind: api.TInt, Text: s[:n]}, n
}

func firstSign(s string) (api.Token, int) {
	for _, sign := range signs {
		if strings.HasPrefix(s, sign) {
			return api.Token{Kind: api.TSign, Text: sign}, len(sign)
		}
	}
	return api.Token{}, 0
}

// isLetter is whether a word may begin with the byte.
func isLetter(b byte) bool {
	return 'a' <= b && b <= 'z' || isGreat(b) || b == '_'
}

func isGreat(b byte) bool { return 'A' <= b && b <= 'Z' }

func isDigit(b byte) bool { return '0' <= b && b <= '9' }
