package ast_test

import (
	"strings"
	"testing"

	"stockpot/api"
)

// P15.1, Good, of texts

// words are texts that are names, texts that are constructors, and texts that are neither.
func words() (names, cons, neither []string) {
	names = []string{"x", "a", "z", "_a", "__", "_1", "_A", "a1", "x_", "aB", "iff", "lets", "le", "rec_", "int1", "_int", "abcdefghijkl", "_bcdefghijkl", "____________"}
	cons = []string{"X", "A", "Z", "A1", "A_", "Ab", "AB", "Let", "LET", "Int", "Abcdefghijkl", "A___________"}
	neither = []string{"", "_", " ", "x ", " x", "X ", " X", "x y", "1", "1x", "1X", "x-", "x.", "x#", "X#", "#", "\n", "x\n", "X\n", "\nx", "\t", "é", "xé", "Éa", "x\x00", "\x00", "\xff", "x\x80", "abcdefghijklm", "Abcdefghijklm", "_bcdefghijklm", "_____________", strings.Repeat("x", 61), strings.Repeat("X", 500), strings.Repeat("x", 1<<20), "\"x\"", "()", "[]", "::", "x'", "Some int"}
	return names, cons, append(neither, strings.Fields(ofTheLanguage)...)
}

// textPlaces are the samples that have a Text, by what it must be.
func textPlaces(kinds ...int) (l []sample) {
	for _, s := range samples() {
		for _, k := range kinds {
			if s.x.n.Kind == k {
				l = append(l, s)
			}
		}
	}
	return l
}

// worded holds each text of the list at the sample's Text; it may be there, or not.
func worded(t *testing.T, want bool, s sample, list []string) {
	t.Helper()
	x, k := around(s.x)
	for _, w := range list {
		held(t, want, s, with(x, k, func(n *api.Node) { n.Text = w }))
	}
}

func TestNames(t *testing.T) {
	names, cons, neither := words()
	for _, s := range textPlaces(api.NVar, api.NFun, api.NLet, api.NRec, api.NTry, api.PVar, api.YName, api.DType) {
		worded(t, true, s, names)
		worded(t, false, s, cons)
		for _, w := range neither {
			worded(t, w == "_" && (s.x.n.Kind == api.NFun || s.x.n.Kind == api.NLet), s, []string{w})
		}
	}
}

func TestConstructors(t *testing.T) {
	names, cons, neither := words()
	l := textPlaces(api.NCon, api.PCon, api.DCon)
	if len(l) != 8 { // with and without what they have
		t.Error(len(l))
	}
	for _, s := range l {
		worded(t, true, s, cons)
		worded(t, false, s, names)
		worded(t, false, s, neither)
	}
}

func TestTheSecondNameOfARec(t *testing.T) {
	names, cons, neither := words()
	x, k := around(textPlaces(api.NRec)[0].x)
	for _, w := range names {
		may(t, w, with(x, k, func(n *api.Node) { n.Text2 = w }))
		may(t, w, with(x, k, func(n *api.Node) { n.Text, n.Text2 = w, w }))
	}
	for _, w := range append(cons, neither...) {
		mayNot(t, w, with(x, k, func(n *api.Node) { n.Text2 = w }))
		mayNot(t, w, with(x, k, func(n *api.Node) { n.Text, n.Text2 = w, w }))
	}
}

func TestTextsThatATokenStandsFor(t *testing.T) {
	s := textPlaces(api.NStr)[0]
	names, cons, _ := words()
	worded(t, true, s, names)
	worded(t, true, s, cons)
	worded(t, true, s, strings.Fields(ofTheLanguage))
	worded(t, true, s, []string{"", " ", "_", "\n", "\"", "\\", "\\n", "\n\n", "a\nb\"c\\d", "~", "# note", "1", "x y", strings.Repeat("x", 60), strings.Repeat("\n", 60), strings.Repeat("\"", 60), strings.Repeat("\\", 60)})
	worded(t, false, s, []string{"\t", "\r", "\x00", "\x1f", "\x7f", "\x80", "\xff", "é", "a\t", "\ta", strings.Repeat("x", 61), strings.Repeat("\n", 61), strings.Repeat("x", 60) + "\t", strings.Repeat("x", 59) + "\t", strings.Repeat("x", 1<<20)})
	for b := range 256 {
		one := string([]byte{byte(b)})
		want := b == '\n' || b >= 0x20 && b <= 0x7e
		worded(t, want, s, []string{one, "a" + one, one + "b", one + one})
	}
}

func TestEachByteOfNames(t *testing.T) {
	small, great := "abcdefghijklmnopqrstuvwxyz", "ABCDEFGHIJKLMNOPQRSTUVWXYZ"
	name, con := textPlaces(api.NVar)[0], textPlaces(api.PCon)[0]
	for b := range 256 {
		one := string([]byte{byte(b)})
		worded(t, strings.Contains(small, one), name, []string{one})
		worded(t, strings.Contains(great, one), con, []string{one})
		within := strings.Contains(small+great+"_0123456789", one)
		worded(t, within, name, []string{"q" + one, "q" + one + "q"})
		worded(t, within, con, []string{"Q" + one, "Q" + one + "q"})
	}
}
