package lex

import "stockpot/api"

// languageWords are the words of the language, which are no names.
var languageWords = [...]string{
	"let", "rec", "in", "fun", "if", "then", "else", "match", "with", "end", "try", "raise",
	"type", "of", "true", "false", "ref", "emit", "log", "send", "recv",
	"size", "byte", "text", "same", "array", "get", "put", "len",
	"int", "bool", "unit", "string", "list",
}

// signs are the signs; one that begins with another one stands ahead of it. The _ is found among the words.
var signs = [...]string{
	"->", ":=", "::", "(", ")", "[", "]", ",", ";", "|", "!", "=", "+", "-", "*", "/", "%", "^", "<",
}

// wordKind is the kind of a token that is a word.
func wordKind(s string) int {
	if s == "_" {
		return api.TSign
	}
	for _, w := range languageWords {
		if s == w {
			return api.TWord
		}
	}
	if isGreat(s[0]) {
		return api.TCon
	}
	return api.TName
}
