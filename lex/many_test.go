package lex_test

import (
	"math/rand"
	"slices"
	"strings"
	"testing"

	"stockpot/api"
	"stockpot/lex"
)

// pieces are what random sources are made of: whole tokens, and pieces of some that are none.
var pieces = strings.Split("let|rec|in|fun|if|string|list|x|y1|_|__|_a|Some|A|abcdefghijkl|Abcdefghijkl|abcdefghijklm|0|7|42|007|4611686018427387903|4611686018427387904|00000000000000000001|\"\"|\"a b\"|\"\\n\"|\"\\\"\"|\"\\\\\"|\"\\t\"|\"a|\\|(|)|[|]|,|;|!|=|+|*|/|%|^|<|:=|::|->|-|:|>|?|.|\r|\x0b|\xa0|\xff|\x00|#|# x|#\n|# \"\n| |\t|\n|  ", "|")

// source is a random source of some n pieces, most of them with a blank between.
func source(r *rand.Rand, n int) string {
	var b strings.Builder
	for range n {
		b.WriteString(pieces[r.Intn(len(pieces))])
		if r.Intn(3) > 0 {
			b.WriteByte(" \t\n"[r.Intn(3)])
		}
	}
	return b.String()
}

// right is a random source of n tokens that are right, each of them behind a blank.
func right(r *rand.Rand, n int) (s string, want []api.Token) {
	for range n {
		s += " \t\n"[r.Intn(3):][:1]
		k := rightToken(r)
		want = append(want, tok(len(s), k.Kind, k.Text))
		s += spelt(k)
	}
	return s, want
}

// rightToken is a random token.
func rightToken(r *rand.Rand) api.Token {
	switch r.Intn(6) {
	case 0:
		return api.Token{Kind: api.TWord, Text: language()[r.Intn(34)]}
	case 1:
		return api.Token{Kind: api.TSign, Text: theSigns()[r.Intn(len(theSigns()))]}
	case 2:
		return api.Token{Kind: api.TInt, Text: digits(r, 1+r.Intn(18))}
	case 3:
		return api.Token{Kind: api.TStr, Text: text(r, r.Intn(61))}
	case 4:
		return api.Token{Kind: api.TCon, Text: "C" + digits(r, r.Intn(12))}
	}
	return api.Token{Kind: api.TName, Text: "_" + digits(r, 1+r.Intn(11))}
}

func digits(r *rand.Rand, n int) string {
	b := make([]byte, n)
	for i := range b {
		b[i] = byte('0' + r.Intn(10))
	}
	return string(b)
}

// text is a random text of n bytes that a token may tell.
func text(r *rand.Rand, n int) string {
	b := make([]byte, n)
	for i := range b {
		b[i] = "\n\"\\"[r.Intn(3)]
		if r.Intn(2) > 0 {
			b[i] = byte(0x20 + r.Intn(0x5f))
		}
	}
	return string(b)
}

// spelt is how a token stands in a source.
func spelt(k api.Token) string {
	if k.Kind != api.TStr {
		return k.Text
	}
	return "\"" + strings.NewReplacer("\\", `\\`, "\n", `\n`, "\"", `\"`).Replace(k.Text) + "\""
}

// asTold expects of the source what the document asks, and that the source is as it was.
func asTold(t *testing.T, s string) {
	t.Helper()
	was := strings.Clone(s)
	l, f := lex.Tokens(s)
	want, fault := plainTokens(was)
	if s != was || f != fault || !slices.Equal(l, want) {
		t.Fatalf("Tokens(%q) = %v, %v, want %v, %v", was, l, f, want, fault)
	}
	if lex.IsName(s) != plainIs(was, api.TName) || lex.IsCon(s) != plainIs(was, api.TCon) || s != was {
		t.Fatalf("IsName, IsCon of %q are %t, %t", was, lex.IsName(s), lex.IsCon(s))
	}
}

func TestRandomSources(t *testing.T) {
	r := rand.New(rand.NewSource(1))
	for range 6000 {
		asTold(t, source(r, r.Intn(9)))
	}
	for range 100 {
		asTold(t, source(r, 1200)[:1990+r.Intn(20)])
	}
}

func TestRandomBytes(t *testing.T) {
	r := rand.New(rand.NewSource(2))
	const likely = "aZ_09\"\\n#:=->< \n\tx"
	for range 20000 {
		b := make([]byte, r.Intn(16))
		for i := range b {
			b[i] = likely[r.Intn(len(likely))]
			if r.Intn(8) == 0 {
				b[i] = byte(r.Intn(256))
			}
		}
		asTold(t, string(b))
	}
}

func TestRandomRightSources(t *testing.T) {
	r := rand.New(rand.NewSource(3))
	for range 3000 {
		s, want := right(r, r.Intn(12))
		tells(t, s, want...)
	}
}

// TestShortSources goes through all sources of up to three bytes that matter.
func TestShortSources(t *testing.T) {
	const all = "a_Z0\"\\n#:=->(? \n\x80"
	for i := range all {
		asTold(t, all[i:i+1])
		for j := range all {
			asTold(t, all[i:i+1]+all[j:j+1])
			for k := range all {
				asTold(t, all[i:i+1]+all[j:j+1]+all[k:k+1])
			}
		}
	}
}

// P14.1, Quote: its token tells the text.

func TestQuoteOfRandomTexts(t *testing.T) {
	r := rand.New(rand.NewSource(4))
	for range 3000 {
		s := text(r, r.Intn(61))
		was := strings.Clone(s)
		quoted(t, s, spelt(api.Token{Kind: api.TStr, Text: s}))
		if s != was {
			t.Fatal(was)
		}
		at := r.Intn(len(s) + 1)
		notQuoted(t, s[:at]+string([]byte{"\t\r\x00\x1f\x7f\x80\xff"[r.Intn(7)]})+s[at:])
	}
}

// P14.2

// fillers are what may stand between tokens and changes nothing but places.
var fillers = []string{" ", "\t", "\n", "  ", "\n\n", "#\n", "# let \" ? \xff 1x\n", " # #\n\t", "\t\t# x\n# y\n"}

// filled is the source of the tokens with blanks and notes ahead of each, behind the last one too, and where each begins then.
func filled(r *rand.Rand, l []api.Token) (string, []api.Token) {
	var s string
	var at []api.Token
	for _, k := range l {
		s += fillers[r.Intn(len(fillers))]
		at = append(at, tok(len(s), k.Kind, k.Text))
		s += spelt(k)
	}
	return s + fillers[r.Intn(len(fillers))] + []string{"", "#", "# x"}[r.Intn(3)], at
}

func TestBlanksAndNotesChangePlacesAlone(t *testing.T) {
	r := rand.New(rand.NewSource(5))
	met := 0
	for range 4000 {
		s := source(r, r.Intn(8))
		l, f := lex.Tokens(s)
		if f.E != api.OK {
			continue
		}
		met += len(l)
		for range 3 {
			more, want := filled(r, l)
			tells(t, more, want...)
		}
	}
	if met < 2000 {
		t.Error("only", met, "tokens were met")
	}
}

func TestBlanksAndNotesAheadOfAFault(t *testing.T) {
	r := rand.New(rand.NewSource(6))
	for range 2000 {
		s := source(r, r.Intn(8))
		_, f := lex.Tokens(s)
		if f.E == api.OK {
			continue
		}
		fill := fillers[r.Intn(len(fillers))]
		faulty(t, fill+s, len(fill)+f.At)
		faulty(t, s[:f.At]+fill+s[f.At:], len(fill)+f.At)
	}
}

// TestWithoutBlanks takes out the blanks between tokens that need none.
func TestWithoutBlanks(t *testing.T) {
	tells(t, "f(x,y)", tok(0, api.TName, "f"), tok(1, api.TSign, "("), tok(2, api.TName, "x"), tok(3, api.TSign, ","), tok(4, api.TName, "y"), tok(5, api.TSign, ")"))
	tells(t, " f\n( x # x\n,\ty )", tok(1, api.TName, "f"), tok(3, api.TSign, "("), tok(5, api.TName, "x"), tok(11, api.TSign, ","), tok(13, api.TName, "y"), tok(15, api.TSign, ")"))
}

// TestAnswersShareNothing writes over one answer, its spare room too, and asks again.
func TestAnswersShareNothing(t *testing.T) {
	s := "let x = \"a\" :: 1"
	first, _ := lex.Tokens(s)
	want := slices.Clone(first)
	again, _ := lex.Tokens(s)
	for i := range first[:cap(first)] {
		first[:cap(first)][i] = tok(-1, -1, "?")
	}
	if !slices.Equal(again, want) {
		t.Error(again)
	}
	tells(t, s, want...)
}
