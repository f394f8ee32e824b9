package lex_test

import (
	"slices"
	"strconv"
	"strings"
	"testing"

	"stockpot/api"
	"stockpot/lex"
)

// tok is a token, its place told ahead.
func tok(at, kind int, text string) api.Token { return api.Token{Kind: kind, Text: text, At: at} }

// tells expects these tokens of the source.
func tells(t *testing.T, s string, want ...api.Token) {
	t.Helper()
	l, f := lex.Tokens(s)
	if f != (api.Fault{}) || !slices.Equal(l, want) {
		t.Errorf("Tokens(%q) = %v, %v, want %v", s, l, f, want)
	}
}

// faulty expects that no token begins at the byte, and that nothing else is told.
func faulty(t *testing.T, s string, at int) {
	t.Helper()
	if l, f := lex.Tokens(s); len(l) != 0 || f != (api.Fault{E: api.ErrLex, At: at}) {
		t.Errorf("Tokens(%q) = %v, %v, want ErrLex at %d", s, l, f, at)
	}
}

// tooLong expects that the source is not looked at.
func tooLong(t *testing.T, s string) {
	t.Helper()
	if l, f := lex.Tokens(s); len(l) != 0 || f != (api.Fault{E: api.ErrLimit}) {
		t.Errorf("Tokens of %d bytes = %v, %v, want ErrLimit", len(s), l, f)
	}
}

// language is the words of the language.
func language() []string { return strings.Fields(ofTheLanguage) }

// theSigns are the document's signs.
func theSigns() []string {
	return strings.Fields("( ) [ ] , ; | _ ! = + * / % ^ < := :: -> -")
}

// letters are the bytes that a word may begin with, but _.
const letters = "abcdefghijklmnopqrstuvwxyzABCDEFGHIJKLMNOPQRSTUVWXYZ"

// P14.1, Tokens

func TestTheChaptersExample(t *testing.T) {
	tells(t, "x::y", tok(0, api.TName, "x"), tok(1, api.TSign, "::"), tok(3, api.TName, "y"))
}

func TestNoTokens(t *testing.T) {
	for _, s := range []string{"", " ", "\t", "\n", " \t\n \n\t ", "#", "##", "# x 1 \"", "#\n", "#\n#", " # x\n\t#y \n ", "# ? \r \xff \x00\n", "#\"", "# x", "#\n\n", strings.Repeat(" ", 2000), strings.Repeat("#", 2000)} {
		tells(t, s)
	}
}

func TestANoteEndsWithTheLine(t *testing.T) {
	tells(t, "# x\ny", tok(4, api.TName, "y"))
	tells(t, "y# x", tok(0, api.TName, "y"))
	tells(t, "1#\n2", tok(0, api.TInt, "1"), tok(3, api.TInt, "2"))
	tells(t, "1#2\n3#4", tok(0, api.TInt, "1"), tok(4, api.TInt, "3"))
	tells(t, "#\ny#\n#\nz", tok(2, api.TName, "y"), tok(7, api.TName, "z"))
	faulty(t, "# x\n?", 4)
	faulty(t, "# \r?\n\r", 5)  // 0d ends no line
	faulty(t, "#\n\"# x\n", 2) // no note begins within a text
	tells(t, "\"# x\"", tok(0, api.TStr, "# x"))
}

func TestBlanks(t *testing.T) {
	for _, b := range []string{" ", "\t", "\n", "  ", "\n\t "} {
		tells(t, "a"+b+"b", tok(0, api.TName, "a"), tok(1+len(b), api.TName, "b"))
		tells(t, b+"1"+b, tok(len(b), api.TInt, "1"))
		tells(t, "1"+b+"2", tok(0, api.TInt, "1"), tok(1+len(b), api.TInt, "2"))
		tells(t, ":="+b+"=", tok(0, api.TSign, ":="), tok(2+len(b), api.TSign, "="))
		tells(t, "-"+b+"-", tok(0, api.TSign, "-"), tok(1+len(b), api.TSign, "-"))
		faulty(t, ":"+b+":", 0)
		faulty(t, "-"+b+">", 1+len(b))
	}
	for _, b := range []string{"\x0b", "\x0c", "\x0d", "\xa0", "\x00", "\x08", "\x1f", "\x7f", "\x85", "\u00a0", "\u2003"} {
		faulty(t, b, 0)
		faulty(t, "a"+b+"b", 1)
		faulty(t, " "+b, 1)
	}
}

func TestWordsOfTheLanguage(t *testing.T) {
	if len(language()) != 34 {
		t.Fatal(len(language()))
	}
	for _, w := range language() {
		tells(t, w, tok(0, api.TWord, w))
		tells(t, " "+w+"\n"+w, tok(1, api.TWord, w), tok(2+len(w), api.TWord, w))
		tells(t, "("+w+")", tok(0, api.TSign, "("), tok(1, api.TWord, w), tok(1+len(w), api.TSign, ")"))
		for _, b := range []string{"s", "_", "0", "A", "x1", w[:1]} {
			tells(t, w+b, tok(0, api.TName, w+b))
		}
		for _, b := range []string{"_", "a", "x_"} {
			tells(t, b+w, tok(0, api.TName, b+w))
		}
		great := strings.ToUpper(w[:1]) + w[1:]
		tells(t, great, tok(0, api.TCon, great))
		tells(t, strings.ToUpper(w), tok(0, api.TCon, strings.ToUpper(w)))
		upper := w[:1] + strings.ToUpper(w[1:])
		tells(t, upper, tok(0, api.TName, upper))
		if short := w[:len(w)-1]; !slices.Contains(language(), short) {
			tells(t, short, tok(0, api.TName, short))
		}
	}
	for _, w := range []string{"and", "or", "not", "do", "done", "while", "unit_", "option", "int64", "str", "pair", "halt", "pop", "add", "nil", "when", "as", "begin"} {
		tells(t, w, tok(0, api.TName, w))
	}
}

func TestNamesAndConstructors(t *testing.T) {
	for i := range len(letters) {
		kind, w := api.TName, letters[i:i+1]
		if i >= 26 {
			kind = api.TCon
		}
		for _, b := range []string{"", "q", "_", "Q", "0", "9z_Z", "__", "_0"} {
			tells(t, w+b, tok(0, kind, w+b))
			tells(t, "_"+w+b, tok(0, api.TName, "_"+w+b))
			tells(t, " "+w+b+"+", tok(1, kind, w+b), tok(1+len(w+b), api.TSign, "+"))
		}
	}
	for i := range 10 {
		w := "_" + strconv.Itoa(i)
		tells(t, w, tok(0, api.TName, w))
		tells(t, "x"+w, tok(0, api.TName, "x"+w))
		tells(t, "X"+w, tok(0, api.TCon, "X"+w))
	}
	tells(t, "_", tok(0, api.TSign, "_"))
	tells(t, "__", tok(0, api.TName, "__"))
	tells(t, "_ _", tok(0, api.TSign, "_"), tok(2, api.TSign, "_"))
	tells(t, "(_)", tok(0, api.TSign, "("), tok(1, api.TSign, "_"), tok(2, api.TSign, ")"))
	tells(t, "x _", tok(0, api.TName, "x"), tok(2, api.TSign, "_"))
	tells(t, "_#\n_", tok(0, api.TSign, "_"), tok(3, api.TSign, "_"))
}

func TestTheLongestWords(t *testing.T) {
	for _, first := range []string{"a", "A", "_", "m", "Z", "z"} {
		for _, more := range []string{"b", "B", "_", "0"} {
			kind, w := api.TName, first+strings.Repeat(more, 11)
			if first == "A" || first == "Z" {
				kind = api.TCon
			}
			tells(t, w, tok(0, kind, w))
			tells(t, "- "+w+"-", tok(0, api.TSign, "-"), tok(2, kind, w), tok(14, api.TSign, "-"))
			faulty(t, w+"x", 0)
			faulty(t, w+"0", 0)
			faulty(t, w+"_", 0)
			faulty(t, w+" "+w+"X", 13)
			faulty(t, w+"x ?", 0)
			faulty(t, strings.Repeat(w, 100), 0)
		}
	}
	faulty(t, "stringstring1", 0)
	faulty(t, "let matchmatchmat", 4)
}

func TestInts(t *testing.T) {
	for _, d := range []string{"0", "1", "9", "10", "42", "007", "00", "0000000000000000000", "0000000000000000042", "4611686018427387903", "4611686018427387902", "999999999999999999", "1000000000000000000", "0999999999999999999"} {
		tells(t, d, tok(0, api.TInt, d))
		for _, b := range []string{" ", "\t", "\n", "#", "# 1\n"} {
			tells(t, b[:1]+"\n"+d+b, tok(2, api.TInt, d))
		}
		for _, g := range theSigns() {
			if g != "_" {
				tells(t, d+g+d, tok(0, api.TInt, d), tok(len(d), api.TSign, g), tok(len(d+g), api.TInt, d))
			}
		}
		tells(t, d+"\"x\"", tok(0, api.TInt, d), tok(len(d), api.TStr, "x"))
		tells(t, d+" x", tok(0, api.TInt, d), tok(len(d)+1, api.TName, "x"))
		tells(t, d+" _", tok(0, api.TInt, d), tok(len(d)+1, api.TSign, "_"))
		faulty(t, d+"_", 0)
		faulty(t, d+"__", 0)
		faulty(t, "x "+d+"_", 2)
		for i := range len(letters) {
			faulty(t, d+letters[i:i+1], 0)
			faulty(t, "+"+d+letters[i:i+1]+"1 2", 1)
		}
		for _, b := range []string{"?", ".", "\xc3", "\x00", "\r"} {
			faulty(t, d+b, len(d))
		}
	}
	for _, d := range []string{"4611686018427387904", "4611686018427387999", "5000000000000000000", "9223372036854775807", "9223372036854775808", "9999999999999999999", "18446744073709551615", "18446744073709551616", "10000000000000000000", "00000000000000000000", "00000000000000000001", strings.Repeat("9", 2000), strings.Repeat("0", 2000), strings.Repeat("1", 300)} {
		faulty(t, d, 0)
		if len(d) < 2000 {
			faulty(t, "-"+d, 1)
			faulty(t, d+" ", 0)
		}
	}
	tells(t, "-4611686018427387903", tok(0, api.TSign, "-"), tok(1, api.TInt, "4611686018427387903"))
	tells(t, "0 x1F", tok(0, api.TInt, "0"), tok(2, api.TName, "x1F"))
	faulty(t, "1e3", 0)
	faulty(t, "1_000", 0)
	faulty(t, "+1.5", 2)
	tells(t, "+1", tok(0, api.TSign, "+"), tok(1, api.TInt, "1"))
}

func TestSigns(t *testing.T) {
	for _, g := range theSigns() {
		tells(t, g, tok(0, api.TSign, g))
		tells(t, " "+g+"\n", tok(1, api.TSign, g))
		if g != "_" {
			tells(t, "a"+g+"B", tok(0, api.TName, "a"), tok(1, api.TSign, g), tok(1+len(g), api.TCon, "B"))
			tells(t, "\"\""+g+"1", tok(0, api.TStr, ""), tok(2, api.TSign, g), tok(2+len(g), api.TInt, "1"))
		}
	}
	tells(t, ":=:=", tok(0, api.TSign, ":="), tok(2, api.TSign, ":="))
	tells(t, "::=", tok(0, api.TSign, "::"), tok(2, api.TSign, "="))
	tells(t, ":::=", tok(0, api.TSign, "::"), tok(2, api.TSign, ":="))
	tells(t, "::::", tok(0, api.TSign, "::"), tok(2, api.TSign, "::"))
	tells(t, "->-", tok(0, api.TSign, "->"), tok(2, api.TSign, "-"))
	tells(t, "-->", tok(0, api.TSign, "-"), tok(1, api.TSign, "->"))
	tells(t, "->->", tok(0, api.TSign, "->"), tok(2, api.TSign, "->"))
	tells(t, "- -", tok(0, api.TSign, "-"), tok(2, api.TSign, "-"))
	tells(t, "--", tok(0, api.TSign, "-"), tok(1, api.TSign, "-"))
	tells(t, "-1", tok(0, api.TSign, "-"), tok(1, api.TInt, "1"))
	tells(t, "<=", tok(0, api.TSign, "<"), tok(1, api.TSign, "="))
	tells(t, "!=", tok(0, api.TSign, "!"), tok(1, api.TSign, "="))
	tells(t, "<-", tok(0, api.TSign, "<"), tok(1, api.TSign, "-"))
	tells(t, "[]", tok(0, api.TSign, "["), tok(1, api.TSign, "]"))
	tells(t, "||", tok(0, api.TSign, "|"), tok(1, api.TSign, "|"))
	faulty(t, ":", 0)
	faulty(t, ": =", 0)
	faulty(t, ": :", 0)
	faulty(t, ":::", 2)
	faulty(t, ":=:", 2)
	faulty(t, ":-", 0)
	faulty(t, ":>", 0)
	faulty(t, "x:y", 1)
	faulty(t, ":#\n=", 0)
	faulty(t, "::=:", 3)
	faulty(t, ">", 0)
	faulty(t, "->>", 2)
	faulty(t, "- >", 2)
	faulty(t, "-#\n>", 3)
	faulty(t, "=>", 1)
	faulty(t, "<>", 1)
	faulty(t, ">=", 0)
}

// TestPairsOfSigns cuts each pair by hand: the longer sign where one begins with another one.
func TestPairsOfSigns(t *testing.T) {
	for _, a := range theSigns() {
		for _, b := range theSigns() {
			if a == "_" && b == "_" {
				tells(t, a+b, tok(0, api.TName, "__"))
				continue
			}
			tells(t, a+b, tok(0, api.TSign, a), tok(len(a), api.TSign, b)) // no pair has a longer sign across its cut
		}
	}
}

func TestTexts(t *testing.T) {
	for _, c := range [][2]string{
		{`""`, ""}, {`"a"`, "a"}, {`" "`, " "}, {`"~"`, "~"}, {`"\n"`, "\n"}, {`"\""`, "\""}, {`"\\"`, "\\"}, {`"\\n"`, "\\n"}, {`"\\\n"`, "\\\n"},
		{`"\\\\"`, "\\\\"}, {`"\"\""`, "\"\""}, {`"a\nb\"c\\d"`, "a\nb\"c\\d"}, {`"n"`, "n"}, {`"let # 1 :: "`, "let # 1 :: "}, {`"\n\n"`, "\n\n"}, {`"'"`, "'"},
	} {
		tells(t, c[0], tok(0, api.TStr, c[1]))
		tells(t, "x"+c[0]+"1", tok(0, api.TName, "x"), tok(1, api.TStr, c[1]), tok(1+len(c[0]), api.TInt, "1"))
		tells(t, c[0]+c[0], tok(0, api.TStr, c[1]), tok(len(c[0]), api.TStr, c[1]))
		tells(t, c[0]+"# \"", tok(0, api.TStr, c[1]))
		faulty(t, c[0]+"\"", len(c[0]))
	}
	for _, s := range []string{`"`, `"a`, `"\`, `"\\`, `"\"`, `"a\`, `"\n`, `"a\"`, "\"\n\"", "\"a\n\"", "\"\t\"", `"\t"`, `"\r"`, `"\0"`, `"\'"`, `"\N"`, `"\ "`, `"\x41"`, "\"\\\n\"", "\"\\\x00\"", "\"\\\xff\"", "\"é\"", "\"\\é\"", `"\\\"`, `"\a"`, `"\/"`} {
		faulty(t, s, 0)
		faulty(t, "let "+s, 4)
		faulty(t, "\""+"\""+s, 2)
	}
}

func TestEachByteOfTexts(t *testing.T) {
	for b := range 256 {
		one := string([]byte{byte(b)})
		switch {
		case b == '"':
			faulty(t, "\""+one+"\"", 2)
		case b == '\\':
			faulty(t, "\""+one+"\"", 0)
		case b >= 0x20 && b <= 0x7e:
			tells(t, "\""+one+"\"", tok(0, api.TStr, one))
			tells(t, "\"a"+one+"b\"", tok(0, api.TStr, "a"+one+"b"))
		default:
			faulty(t, "\""+one+"\"", 0)
			faulty(t, "= \"a"+one+"b\"", 2)
			faulty(t, "\"a\"\""+one, 3)
		}
		switch b {
		case 'n':
			tells(t, "\"\\"+one+"\"", tok(0, api.TStr, "\n"))
		case '\\':
			tells(t, "\"\\"+one+"\"", tok(0, api.TStr, "\\"))
		case '"':
			faulty(t, "\"\\"+one, 0)
			tells(t, "\"\\"+one+"\"", tok(0, api.TStr, "\""))
		default:
			faulty(t, "\"\\"+one+"\"", 0)
		}
	}
}

func TestTheLongestTexts(t *testing.T) {
	for _, c := range [][2]string{{"x", "x"}, {" ", " "}, {`\n`, "\n"}, {`\"`, "\""}, {`\\`, "\\"}, {"~", "~"}} {
		told := "\"" + strings.Repeat(c[0], 60) + "\""
		tells(t, told, tok(0, api.TStr, strings.Repeat(c[1], 60)))
		tells(t, "1 "+told+told, tok(0, api.TInt, "1"), tok(2, api.TStr, strings.Repeat(c[1], 60)), tok(2+len(told), api.TStr, strings.Repeat(c[1], 60)))
		more := "\"" + strings.Repeat(c[0], 61) + "\""
		faulty(t, more, 0)
		faulty(t, " "+more, 1)
		faulty(t, told+more, len(told))
		faulty(t, "\"y"+told[1:], 0)
		faulty(t, told[:len(told)-1]+"y\"", 0)
		faulty(t, told[:len(told)-1]+`\n"`, 0)
		faulty(t, told[:len(told)-1], 0)
		half := "\"" + strings.Repeat("x", 30) + strings.Repeat(c[0], 30) + "\""
		tells(t, half, tok(0, api.TStr, strings.Repeat("x", 30)+strings.Repeat(c[1], 30)))
	}
	faulty(t, "\""+strings.Repeat("x", 1998)+"\"", 0)
}

func TestTheLongestSources(t *testing.T) {
	for _, s := range []string{" ", "#", "?", "1", "a", "\"", "(", "\xff", "\x00", "\n", ":", "_"} {
		tooLong(t, strings.Repeat(s, 2001))
		tooLong(t, strings.Repeat(s, 4000))
		tooLong(t, strings.Repeat(s, 100000))
	}
	tooLong(t, "1"+strings.Repeat(" ", 2000))
	tooLong(t, "?"+strings.Repeat(" ", 2000))
	tooLong(t, strings.Repeat("a ", 1000)+"a")
	l, f := lex.Tokens(strings.Repeat("a ", 1000))
	if f != (api.Fault{}) || len(l) != 1000 {
		t.Fatal(len(l), f)
	}
	for i, k := range l {
		if k != tok(2*i, api.TName, "a") {
			t.Error(i, k)
		}
	}
	l, f = lex.Tokens(strings.Repeat("(", 2000))
	if f != (api.Fault{}) || len(l) != 2000 || l[1999] != tok(1999, api.TSign, "(") {
		t.Error(len(l), f)
	}
	tells(t, strings.Repeat(" ", 1999)+"x", tok(1999, api.TName, "x"))
	tells(t, "x"+strings.Repeat("#", 1999), tok(0, api.TName, "x"))
	faulty(t, strings.Repeat(" ", 1999)+"?", 1999)
	faulty(t, strings.Repeat("a ", 999)+"2x", 1998)
	faulty(t, strings.Repeat("a ", 999)+" \"", 1999)
}

// TestBytesThatBeginNoToken knows by hand which bytes begin none.
func TestBytesThatBeginNoToken(t *testing.T) {
	n := 0
	for b := range 256 {
		one := string([]byte{byte(b)})
		if strings.Contains(letters+"0123456789_\"()[],;|!=+-*/%^<# \t\n", one) {
			continue
		}
		n++
		faulty(t, one, 0)
		faulty(t, one+" let x = 1", 0)
		faulty(t, one+"\"", 0)
		faulty(t, " "+one, 1)
		faulty(t, "let "+one+" x", 4)
		faulty(t, "let x"+one+"y", 5)
		faulty(t, "1"+one+"2", 1)
		faulty(t, "\"a\""+one+"\"b\"", 3)
		faulty(t, "(x)"+one, 3)
		faulty(t, "(x) "+one, 4)
		faulty(t, "# "+one+"\n"+one, 4)
		faulty(t, "x "+one+"2x", 2) // the first one counts
		faulty(t, "2x "+one, 0)
		if b != '>' {
			faulty(t, "-"+one, 1)
		}
		if b != ':' {
			faulty(t, one+one, 0)
		}
	}
	if n != 256-52-10-1-1-16-4 { // letters, digits, _, ", signs, # and blanks
		t.Error(n)
	}
}

func TestEachTokensPlace(t *testing.T) {
	tells(t, "type t = A of int | B # two\nin\n\tmatch f_1 \"a\\n\" with A n -> n::[] | _ -> !r end",
		tok(0, api.TWord, "type"), tok(5, api.TName, "t"), tok(7, api.TSign, "="), tok(9, api.TCon, "A"), tok(11, api.TWord, "of"), tok(14, api.TWord, "int"), tok(18, api.TSign, "|"), tok(20, api.TCon, "B"),
		tok(28, api.TWord, "in"), tok(32, api.TWord, "match"), tok(38, api.TName, "f_1"), tok(42, api.TStr, "a\n"), tok(48, api.TWord, "with"), tok(53, api.TCon, "A"), tok(55, api.TName, "n"), tok(57, api.TSign, "->"), tok(60, api.TName, "n"), tok(61, api.TSign, "::"), tok(63, api.TSign, "["), tok(64, api.TSign, "]"),
		tok(66, api.TSign, "|"), tok(68, api.TSign, "_"), tok(70, api.TSign, "->"), tok(73, api.TSign, "!"), tok(74, api.TName, "r"), tok(76, api.TWord, "end"))
}
