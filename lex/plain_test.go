package lex_test

import (
	"math/big"
	"regexp"
	"strings"

	"stockpot/api"
)

// The document's words, told as patterns. What is handed in is any bytes: each byte stands as the rune of its number.
var (
	between   = regexp.MustCompile(`^([\x20\x09\x0a]|#[^\n]*(\n|$))*`)
	wordForm  = regexp.MustCompile(`^[a-zA-Z_][a-zA-Z0-9_]*`)
	digitForm = regexp.MustCompile(`^[0-9]+`)
	textForm  = regexp.MustCompile(`^"([\x20-\x21\x23-\x5b\x5d-\x7e]|\\[n"\\])*"`)
	signForm  = regexp.MustCompile(`^(->|:=|::|[()\[\],;|_!=+*/%^<-])`)
)

const ofTheLanguage = " let rec in fun if then else match with end try raise type of true false ref emit log send recv size byte text same array get put len int bool unit string list "

// runes is the text whose runes are the bytes of s.
func runes(s string) string {
	l := make([]rune, 0, len(s))
	for i := 0; i < len(s); i++ {
		l = append(l, rune(s[i]))
	}
	return string(l)
}

// plainTokens is what Tokens is to tell, as the document's words follow one another.
func plainTokens(s string) (l []api.Token, f api.Fault) {
	if len(s) > 2000 {
		return nil, api.Fault{E: api.ErrLimit}
	}
	rest, at := runes(s), 0
	for {
		n := len([]rune(between.FindString(rest)))
		at, rest = at+n, string([]rune(rest)[n:])
		if rest == "" {
			return l, api.Fault{}
		}
		k, n := plainFirst(rest)
		if n == 0 {
			return nil, api.Fault{E: api.ErrLex, At: at}
		}
		k.At = at
		l = append(l, k)
		at, rest = at+n, rest[n:] // a token has bytes below 80 alone
	}
}

// plainFirst is the token at the beginning of s, and how long it is there.
func plainFirst(s string) (api.Token, int) {
	if w := wordForm.FindString(s); w != "" && w != "_" {
		switch {
		case len(w) > 12:
			return api.Token{}, 0
		case strings.Contains(ofTheLanguage, " "+w+" "):
			return api.Token{Kind: api.TWord, Text: w}, len(w)
		case w[0] >= 'A' && w[0] <= 'Z':
			return api.Token{Kind: api.TCon, Text: w}, len(w)
		}
		return api.Token{Kind: api.TName, Text: w}, len(w)
	}
	if d := digitForm.FindString(s); d != "" {
		n, _ := new(big.Int).SetString(d, 10)
		if len(d) > 19 || n.BitLen() > 62 || wordForm.MatchString(s[len(d):]) {
			return api.Token{}, 0
		}
		return api.Token{Kind: api.TInt, Text: d}, len(d)
	}
	if q := textForm.FindString(s); q != "" {
		told := strings.NewReplacer(`\n`, "\n", `\"`, `"`, `\\`, `\`).Replace(q[1 : len(q)-1])
		if len(told) > 60 {
			return api.Token{}, 0
		}
		return api.Token{Kind: api.TStr, Text: told}, len(q)
	}
	g := signForm.FindString(s)
	if g == "" {
		return api.Token{}, 0
	}
	return api.Token{Kind: api.TSign, Text: g}, len(g)
}

// plainIs is whether s is a word of the kind.
func plainIs(s string, kind int) bool {
	l, f := plainTokens(s)
	return f.E == api.OK && len(l) == 1 && l[0].Kind == kind && l[0].Text == s
}
