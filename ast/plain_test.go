package ast_test

import (
	"regexp"
	"strconv"
	"strings"

	"stockpot/api"
)

// plain goes over a tree from its tops down, as the document's words follow one another; it counts how often it comes to each node.
type plain struct {
	nodes []api.Node
	met   []int
}

// plainGood is whether the tree may be.
func plainGood(t api.Tree) bool {
	if len(t.Nodes) < 1 || len(t.Nodes) > 500 {
		return false
	}
	p := &plain{t.Nodes, make([]int, len(t.Nodes))}
	for i, k := range t.Types {
		if i > 0 && t.Types[i-1] >= k || !p.datatype(k) {
			return false
		}
	}
	if t.Root != len(t.Nodes)-1 || !p.expression(t.Root, len(t.Nodes)) {
		return false
	}
	for _, n := range p.met {
		if n != 1 {
			return false
		}
	}
	return true
}

// at is node k; false, if there is none below that number, or it was met.
func (p *plain) at(k, below int) (api.Node, bool) {
	if k < 0 || k >= below || k >= len(p.nodes) || p.met[k] > 0 {
		return api.Node{}, false
	}
	p.met[k]++
	return p.nodes[k], true
}

// bareBut is whether the node has nothing but these fields.
func bareBut(n api.Node, fields string) bool {
	rest := api.Node{Kind: n.Kind, At: n.At}
	for _, f := range strings.Fields(fields) {
		switch f {
		case "Text":
			rest.Text = n.Text
		case "Text2":
			rest.Text2 = n.Text2
		case "N":
			rest.N = n.N
		case "A":
			rest.A = n.A
		case "B":
			rest.B = n.B
		case "C":
			rest.C = n.C
		}
	}
	return n == rest
}

func (p *plain) expression(k, below int) bool {
	n, ok := p.at(k, below)
	if !ok {
		return false
	}
	switch n.Kind {
	case api.NInt:
		return bareBut(n, "N") && n.N >= 0 && n.N <= 4611686018427387903
	case api.NBool:
		return bareBut(n, "N") && (n.N == 0 || n.N == 1)
	case api.NUnit, api.NNil:
		return bareBut(n, "")
	case api.NStr:
		return bareBut(n, "Text") && plainQuoted(n.Text)
	case api.NVar:
		return bareBut(n, "Text") && plainName(n.Text)
	case api.NCon:
		return bareBut(n, "Text A") && plainCon(n.Text) && (n.A == -1 || p.expression(n.A, k))
	case api.NCons, api.NPair, api.NApp, api.NSeq, api.NAssign:
		return bareBut(n, "A B") && p.expression(n.A, k) && p.expression(n.B, k)
	case api.NFun:
		return bareBut(n, "Text A") && (n.Text == "_" || plainName(n.Text)) && p.expression(n.A, k)
	case api.NLet:
		return bareBut(n, "Text A B") && (n.Text == "_" || plainName(n.Text)) && p.expression(n.A, k) && p.expression(n.B, k)
	case api.NRec:
		return bareBut(n, "Text Text2 A B") && plainName(n.Text) && plainName(n.Text2) && p.expression(n.A, k) && p.expression(n.B, k)
	case api.NIf:
		return bareBut(n, "A B C") && p.expression(n.A, k) && p.expression(n.B, k) && p.expression(n.C, k)
	case api.NBin:
		return bareBut(n, "N A B") && plainSign(n.N) && p.expression(n.A, k) && p.expression(n.B, k)
	case api.NMatch:
		return bareBut(n, "A B") && p.expression(n.A, k) && p.clauses(n.B, k)
	case api.NRaise, api.NRef, api.NDeref:
		return bareBut(n, "A") && p.expression(n.A, k)
	case api.NTry:
		return bareBut(n, "Text A B") && plainName(n.Text) && p.expression(n.A, k) && p.expression(n.B, k)
	case api.NPrim:
		return bareBut(n, "N A B C") && p.prim(n, k)
	case api.NHost:
		return bareBut(n, "N A B C") && p.host(n, k)
	}
	return false
}

func (p *plain) prim(n api.Node, k int) bool {
	switch plainTakes(n.N) {
	case 1:
		return p.expression(n.A, k) && n.B == -1 && n.C == -1
	case 2:
		return p.expression(n.A, k) && p.expression(n.B, k) && n.C == -1
	case 3:
		return p.expression(n.A, k) && p.expression(n.B, k) && p.expression(n.C, k)
	}
	return false
}

func (p *plain) host(n api.Node, k int) bool {
	switch n.N {
	case 0, 1:
		return p.expression(n.A, k) && n.B == -1 && n.C == 0
	case 2:
		return p.expression(n.A, k) && p.expression(n.B, k) && n.C == 0
	case 3:
		return n.A == -1 && n.B == -1 && p.typ(n.C, k)
	}
	return false
}

func (p *plain) clauses(k, below int) bool {
	n, ok := p.at(k, below)
	if !ok || n.Kind != api.NClause || !bareBut(n, "A B C") {
		return false
	}
	return p.pattern(n.A, k) && p.expression(n.B, k) && (n.C == -1 || p.clauses(n.C, k))
}

func (p *plain) pattern(k, below int) bool {
	n, ok := p.at(k, below)
	if !ok {
		return false
	}
	switch n.Kind {
	case api.PAny, api.PUnit, api.PNil:
		return bareBut(n, "")
	case api.PVar:
		return bareBut(n, "Text") && plainName(n.Text)
	case api.PInt:
		return bareBut(n, "N") && n.N >= -4611686018427387903 && n.N <= 4611686018427387903
	case api.PBool:
		return bareBut(n, "N") && (n.N == 0 || n.N == 1)
	case api.PCons, api.PPair:
		return bareBut(n, "A B") && p.pattern(n.A, k) && p.pattern(n.B, k)
	case api.PCon:
		return bareBut(n, "Text A") && plainCon(n.Text) && (n.A == -1 || p.pattern(n.A, k))
	}
	return false
}

func (p *plain) typ(k, below int) bool {
	n, ok := p.at(k, below)
	if !ok {
		return false
	}
	switch n.Kind {
	case api.YInt, api.YBool, api.YUnit, api.YStr:
		return bareBut(n, "")
	case api.YName:
		return bareBut(n, "Text") && plainName(n.Text)
	case api.YList:
		return bareBut(n, "A") && p.typ(n.A, k)
	case api.YPair:
		return bareBut(n, "A B") && p.typ(n.A, k) && p.typ(n.B, k)
	}
	return false
}

func (p *plain) datatype(k int) bool {
	n, ok := p.at(k, len(p.nodes))
	return ok && n.Kind == api.DType && bareBut(n, "Text A") && plainName(n.Text) && p.constructors(n.A, k)
}

func (p *plain) constructors(k, below int) bool {
	n, ok := p.at(k, below)
	if !ok || n.Kind != api.DCon || !bareBut(n, "Text A B") || !plainCon(n.Text) {
		return false
	}
	return (n.A == -1 || p.typ(n.A, k)) && (n.B == -1 || p.constructors(n.B, k))
}

var (
	nameForm = regexp.MustCompile(`^[a-z_][a-zA-Z0-9_]{0,11}$`)
	conForm  = regexp.MustCompile(`^[A-Z][a-zA-Z0-9_]{0,11}$`)
	textForm = regexp.MustCompile(`^[\x0a\x20-\x7e]{0,60}$`)
)

const ofTheLanguage = " let rec in fun if then else match with end try raise type of true false ref emit log send recv size byte text same array get put len int bool unit string list "

func plainName(s string) bool {
	return nameForm.MatchString(s) && s != "_" && !strings.Contains(ofTheLanguage, " "+s+" ")
}

func plainCon(s string) bool { return conForm.MatchString(s) }

func plainQuoted(s string) bool { return textForm.MatchString(s) }

// plainSign is whether the Op is add, sub, mul, div, mod, eq, less or cat.
func plainSign(n int64) bool { return n >= 12 && n <= 18 || n == 28 }

// plainTakes is how many children an NPrim of the Op has: array, get, put, len, size, byte, text, same; 0 of no such Op.
func plainTakes(n int64) int {
	return map[int64]int{24: 2, 25: 2, 26: 3, 27: 1, 29: 1, 30: 2, 31: 1, 32: 2}[n]
}

// plainPlaces is which of A, B and C a node of a tree that may be has, if they are not -1.
func plainPlaces(n api.Node) string {
	switch n.Kind {
	case api.NInt, api.NBool, api.NUnit, api.NStr, api.NVar, api.NNil, api.PAny, api.PVar, api.PInt, api.PBool, api.PUnit, api.PNil, api.YInt, api.YBool, api.YUnit, api.YStr, api.YName:
		return ""
	case api.NCon, api.NFun, api.NRaise, api.NRef, api.NDeref, api.PCon, api.YList, api.DType:
		return "A"
	case api.NIf, api.NClause, api.NPrim:
		return "ABC"
	case api.NHost:
		return [4]string{"A", "A", "AB", "C"}[n.N]
	}
	return "AB"
}

// plainKids is the children of a node of a tree that may be.
func plainKids(n api.Node) (l []int) {
	for _, p := range plainPlaces(n) {
		if c := map[rune]int{'A': n.A, 'B': n.B, 'C': n.C}[p]; c != -1 {
			l = append(l, c)
		}
	}
	return l
}

// plainDeep is how deep the node is, of a tree that may be; a match has all its clauses.
func plainDeep(nodes []api.Node, k int) int {
	n := nodes[k]
	kids := plainKids(n)
	if n.Kind == api.NMatch {
		for c := nodes[n.B].C; c != -1; c = nodes[c].C {
			kids = append(kids, c)
		}
	}
	if n.Kind == api.NClause {
		kids = []int{n.A, n.B}
	}
	deepest := 0
	for _, c := range kids {
		deepest = max(deepest, plainDeep(nodes, c))
	}
	return 1 + deepest
}

// plainText is all that Same is to look at, of a tree that may be.
func plainText(t api.Tree) string {
	var b strings.Builder
	for _, k := range t.Types {
		b.WriteString(nodeText(t.Nodes, k))
	}
	return b.String() + "in" + nodeText(t.Nodes, t.Root)
}

func nodeText(nodes []api.Node, k int) string {
	n := nodes[k]
	s := "(" + strconv.Itoa(n.Kind) + strconv.Quote(n.Text) + strconv.Quote(n.Text2) + strconv.FormatInt(n.N, 10)
	for _, p := range plainPlaces(n) {
		c := map[rune]int{'A': n.A, 'B': n.B, 'C': n.C}[p]
		if c == -1 {
			s += " none"
		} else {
			s += " " + nodeText(nodes, c)
		}
	}
	return s + ")"
}
