package ast_test

import (
	"strconv"

	"stockpot/api"
)

// term is a node that is still to be laid, with its children; where it has none, its A, B or C stays as the node has it.
type term struct {
	n    api.Node
	kids [3]*term
}

// of is the node with these children, as A, B, C; a nil one is none.
func of(n api.Node, kids ...*term) *term {
	x := &term{n: n}
	copy(x.kids[:], kids)
	return x
}

// laid is nodes, and where each term was laid last.
type laid struct {
	nodes []api.Node
	at    map[*term]int
}

// lay lays the term behind all that it has.
func (l *laid) lay(x *term) int {
	n := x.n
	for i, f := range []*int{&n.A, &n.B, &n.C} {
		if x.kids[i] != nil {
			*f = l.lay(x.kids[i])
		}
	}
	l.nodes = append(l.nodes, n)
	l.at[x] = len(l.nodes) - 1
	return l.at[x]
}

// place is where the tree of the root and the types has the term x.
func place(x, root *term, types ...*term) (api.Tree, int) {
	l := laid{at: map[*term]int{}}
	var t api.Tree
	for _, d := range types {
		t.Types = append(t.Types, l.lay(d))
	}
	t.Root = l.lay(root)
	t.Nodes = l.nodes
	return t, l.at[x]
}

// tree is the root's, with the types ahead of it.
func tree(root *term, types ...*term) api.Tree {
	t, _ := place(root, root, types...)
	return t
}

// The families of kinds, as the document tells them; a clause, a datatype and a constructor of one are by themselves.
const (
	expression = iota
	clause
	pattern
	typ
	datatype
	constructor
	families
)

func family(kind int) int {
	switch {
	case kind == api.NClause:
		return clause
	case kind >= api.PAny && kind <= api.PCon:
		return pattern
	case kind >= api.YInt && kind <= api.YPair:
		return typ
	case kind == api.DType:
		return datatype
	case kind == api.DCon:
		return constructor
	}
	return expression
}

var (
	unit    = of(api.Node{Kind: api.NUnit})
	anyone  = of(api.Node{Kind: api.PAny})
	intType = of(api.Node{Kind: api.YInt})
	bare    = of(api.Node{Kind: api.DCon, Text: "Bare", A: -1, B: -1})
	only    = of(api.Node{Kind: api.NClause, C: -1}, anyone, unit)
)

// around is a tree with the term at a place where its family may be, and where it lies.
func around(x *term) (api.Tree, int) {
	switch family(x.n.Kind) {
	case clause:
		return place(x, of(api.Node{Kind: api.NMatch}, unit, x))
	case pattern:
		return place(x, of(api.Node{Kind: api.NMatch}, unit, of(api.Node{Kind: api.NClause, C: -1}, x, unit)))
	case typ:
		return place(x, of(api.Node{Kind: api.NHost, N: api.HRecv, A: -1, B: -1}, nil, nil, x))
	case datatype:
		return place(x, unit, x)
	case constructor:
		return place(x, unit, of(api.Node{Kind: api.DType, Text: "t"}, x))
	}
	return place(x, x)
}

// sample is a term that may be at its family's place, which fields it has, and how deep a Root around it is.
type sample struct {
	x    *term
	has  string
	deep int
}

func (s sample) String() string {
	return "kind " + strconv.Itoa(s.x.n.Kind) + " " + s.x.n.Text + " " + strconv.FormatInt(s.x.n.N, 10)
}

// samples has each kind, with and without each child that there may be or not be, each instruction and each host's call.
func samples() []sample {
	return append(append(expressions(), calls()...), others()...)
}

func expressions() []sample {
	return []sample{
		{of(api.Node{Kind: api.NInt, N: 7}), "N", 1},
		{of(api.Node{Kind: api.NBool, N: 1}), "N", 1},
		{of(api.Node{Kind: api.NUnit}), "", 1},
		{of(api.Node{Kind: api.NStr, Text: "a b"}), "Text", 1},
		{of(api.Node{Kind: api.NVar, Text: "x"}), "Text", 1},
		{of(api.Node{Kind: api.NCon, Text: "C", A: -1}), "Text A", 1},
		{of(api.Node{Kind: api.NCon, Text: "C"}, unit), "Text A", 2},
		{of(api.Node{Kind: api.NNil}), "", 1},
		{of(api.Node{Kind: api.NCons}, unit, unit), "A B", 2},
		{of(api.Node{Kind: api.NPair}, unit, unit), "A B", 2},
		{of(api.Node{Kind: api.NFun, Text: "x"}, unit), "Text A", 2},
		{of(api.Node{Kind: api.NApp}, unit, unit), "A B", 2},
		{of(api.Node{Kind: api.NLet, Text: "x"}, unit, unit), "Text A B", 2},
		{of(api.Node{Kind: api.NRec, Text: "f", Text2: "x"}, unit, unit), "Text Text2 A B", 2},
		{of(api.Node{Kind: api.NIf}, unit, unit, unit), "A B C", 2},
		{of(api.Node{Kind: api.NBin, N: api.OAdd}, unit, unit), "N A B", 2},
		{of(api.Node{Kind: api.NSeq}, unit, unit), "A B", 2},
		{of(api.Node{Kind: api.NAssign}, unit, unit), "A B", 2},
		{of(api.Node{Kind: api.NMatch}, unit, only), "A B", 3},
		{of(api.Node{Kind: api.NClause, C: -1}, anyone, unit), "A B C", 3},
		{of(api.Node{Kind: api.NClause}, anyone, unit, only), "A B C", 3},
		{of(api.Node{Kind: api.NRaise}, unit), "A", 2},
		{of(api.Node{Kind: api.NTry, Text: "e"}, unit, unit), "Text A B", 2},
		{of(api.Node{Kind: api.NRef}, unit), "A", 2},
		{of(api.Node{Kind: api.NDeref}, unit), "A", 2},
	}
}

func calls() []sample {
	return []sample{
		{of(api.Node{Kind: api.NPrim, N: api.OSize, B: -1, C: -1}, unit), "N A", 2},
		{of(api.Node{Kind: api.NPrim, N: api.OText, B: -1, C: -1}, unit), "N A", 2},
		{of(api.Node{Kind: api.NPrim, N: api.OLen, B: -1, C: -1}, unit), "N A", 2},
		{of(api.Node{Kind: api.NPrim, N: api.OByte, C: -1}, unit, unit), "N A B", 2},
		{of(api.Node{Kind: api.NPrim, N: api.OSame, C: -1}, unit, unit), "N A B", 2},
		{of(api.Node{Kind: api.NPrim, N: api.OArray, C: -1}, unit, unit), "N A B", 2},
		{of(api.Node{Kind: api.NPrim, N: api.OGet, C: -1}, unit, unit), "N A B", 2},
		{of(api.Node{Kind: api.NPrim, N: api.OPut}, unit, unit, unit), "N A B C", 2},
		{of(api.Node{Kind: api.NHost, N: api.HEmit, B: -1}, unit), "N A", 2},
		{of(api.Node{Kind: api.NHost, N: api.HLog, B: -1}, unit), "N A", 2},
		{of(api.Node{Kind: api.NHost, N: api.HSend}, unit, unit), "N A B", 2},
		{of(api.Node{Kind: api.NHost, N: api.HRecv, A: -1, B: -1}, nil, nil, intType), "N C", 2},
	}
}

func others() []sample {
	return []sample{
		{of(api.Node{Kind: api.PAny}), "", 3},
		{of(api.Node{Kind: api.PVar, Text: "x"}), "Text", 3},
		{of(api.Node{Kind: api.PInt, N: -7}), "N", 3},
		{of(api.Node{Kind: api.PBool, N: 1}), "N", 3},
		{of(api.Node{Kind: api.PUnit}), "", 3},
		{of(api.Node{Kind: api.PNil}), "", 3},
		{of(api.Node{Kind: api.PCons}, anyone, anyone), "A B", 4},
		{of(api.Node{Kind: api.PPair}, anyone, anyone), "A B", 4},
		{of(api.Node{Kind: api.PCon, Text: "C", A: -1}), "Text A", 3},
		{of(api.Node{Kind: api.PCon, Text: "C"}, anyone), "Text A", 4},
		{of(api.Node{Kind: api.YInt}), "", 2},
		{of(api.Node{Kind: api.YBool}), "", 2},
		{of(api.Node{Kind: api.YUnit}), "", 2},
		{of(api.Node{Kind: api.YStr}), "", 2},
		{of(api.Node{Kind: api.YName, Text: "t"}), "Text", 2},
		{of(api.Node{Kind: api.YList}, intType), "A", 3},
		{of(api.Node{Kind: api.YPair}, intType, intType), "A B", 3},
		{of(api.Node{Kind: api.DType, Text: "t"}, bare), "Text A", 1},
		{of(api.Node{Kind: api.DCon, Text: "C", A: -1, B: -1}), "Text A B", 1},
		{of(api.Node{Kind: api.DCon, Text: "C", B: -1}, intType), "Text A B", 1},
		{of(api.Node{Kind: api.DCon, Text: "C", A: -1}, nil, bare), "Text A B", 1},
		{of(api.Node{Kind: api.DCon, Text: "C"}, intType, bare), "Text A B", 1},
	}
}
