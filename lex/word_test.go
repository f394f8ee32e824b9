package lex_test

import (
	"strings"
	"testing"

	"stockpot/api"
	"stockpot/lex"
)

// is expects what a text is by itself.
func is(t *testing.T, s string, name, con bool) {
	t.Helper()
	if lex.IsName(s) != name || lex.IsCon(s) != con {
		t.Errorf("IsName, IsCon of %q are %t, %t", s, lex.IsName(s), lex.IsCon(s))
	}
}

// quoted expects the token that stands for the text, and that it does.
func quoted(t *testing.T, s, want string) {
	t.Helper()
	if q, ok := lex.Quote(s); !ok || q != want {
		t.Errorf("Quote(%q) = %q, %t, want %q", s, q, ok, want)
	}
	tells(t, want, tok(0, api.TStr, s))
	tells(t, " "+want+want, tok(1, api.TStr, s), tok(1+len(want), api.TStr, s))
}

// notQuoted expects that no token stands for the text.
func notQuoted(t *testing.T, s string) {
	t.Helper()
	if q, ok := lex.Quote(s); ok || q != "" {
		t.Errorf("Quote(%q) = %q, %t, want none", s, q, ok)
	}
}

// P14.1, IsName and IsCon

func TestWhatIsNoNameAndNoConstructor(t *testing.T) {
	for _, s := range []string{"", "_", " ", "#", "1", "1a", "1A", "0_", "__ __", "a b", "A B", "a B", "-a", "a-", "a:", "a(", "\"a\"", "a\"\"", "?", "->", "::", "a.b", "é", "\xff", "a\xffb", "A'", strings.Repeat(" ", 3000)} {
		is(t, s, false, false)
	}
	for _, w := range language() {
		is(t, w, false, false)
		is(t, w+"1", true, false)
		is(t, strings.ToUpper(w[:1])+w[1:], false, true)
		is(t, " "+w, false, false)
	}
}

func TestNamesAndConstructorsByThemselves(t *testing.T) {
	for i := range len(letters) {
		for _, more := range []string{"", "a", "Z", "0", "_", "_x9Y", "234567890ab", "___________"} {
			name, con := i < 26, i >= 26
			w := letters[i:i+1] + more
			is(t, w, name, con)
			if len(w) < 12 {
				is(t, "_"+w, true, false)
			}
			for _, b := range []string{" ", "\t", "\n", "#", "# x\n", "(", "-", "?", ":", "\"", "\x00", "\x80", "\xc3\xa9", "\xff", "\r"} {
				is(t, w+b, false, false)
				is(t, b+w, false, false)
				is(t, w+b+"x", false, false)
			}
		}
	}
	is(t, "__", true, false)
	is(t, "_1", true, false)
	is(t, "_A", true, false)
	is(t, "____________", true, false)
	is(t, "_____________", false, false)
}

func TestTheLongestNamesAndConstructors(t *testing.T) {
	for _, more := range []string{"a", "A", "0", "_"} {
		is(t, "n"+strings.Repeat(more, 11), true, false)
		is(t, "C"+strings.Repeat(more, 11), false, true)
		is(t, "_"+strings.Repeat(more, 11), true, false)
		for _, n := range []int{12, 13, 1999, 2000, 2001, 100000} {
			is(t, "n"+strings.Repeat(more, n), false, false)
			is(t, "C"+strings.Repeat(more, n), false, false)
			is(t, "_"+strings.Repeat(more, n), false, false)
		}
	}
	is(t, "a"+strings.Repeat(" ", 3000), false, false)
	is(t, "A#"+strings.Repeat("x", 3000), false, false)
}

// P14.1, Quote

func TestQuoteOfEachByte(t *testing.T) {
	for b := range 256 {
		one := string([]byte{byte(b)})
		switch {
		case b == '\n':
			quoted(t, one, `"\n"`)
		case b == '"':
			quoted(t, one, `"\""`)
		case b == '\\':
			quoted(t, one, `"\\"`)
		case b >= 0x20 && b <= 0x7e:
			quoted(t, one, "\""+one+"\"")
			quoted(t, "a"+one+"\n", "\"a"+one+"\\n\"")
		default:
			notQuoted(t, one)
			notQuoted(t, "a"+one)
			notQuoted(t, one+"a")
			notQuoted(t, strings.Repeat("a", 59)+one)
		}
	}
	quoted(t, "", `""`)
	quoted(t, `\n`, `"\\n"`)
	quoted(t, "let x = \"# 1\" in\nx", `"let x = \"# 1\" in\nx"`)
	quoted(t, "'#'", `"'#'"`)
	notQuoted(t, "é")
	notQuoted(t, "a\tb")
	notQuoted(t, "a\r\n")
}

func TestQuoteOfTheLongestTexts(t *testing.T) {
	for _, c := range [][2]string{{"x", "x"}, {" ", " "}, {"\n", `\n`}, {"\"", `\"`}, {"\\", `\\`}, {"~", "~"}} {
		quoted(t, strings.Repeat(c[0], 60), "\""+strings.Repeat(c[1], 60)+"\"")
		quoted(t, strings.Repeat(c[0], 59), "\""+strings.Repeat(c[1], 59)+"\"")
		for _, n := range []int{61, 62, 400, 2001, 100000} {
			notQuoted(t, strings.Repeat(c[0], n))
		}
	}
	notQuoted(t, strings.Repeat("\x00", 61))
	notQuoted(t, strings.Repeat("x", 60)+"\x00")
}
