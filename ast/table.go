package ast

import (
	"stockpot/api"
	"stockpot/op"
)

// The places of a row's letters: what the node is, then what each of its fields must be.
const (
	itself = iota
	text
	number
	childA // B and C behind it
)

// What a node is, and so what a child must be; the same letter small: a child that may be absent, too.
const (
	expression  = 'E'
	clause      = 'L'
	pattern     = 'P'
	typ         = 'Y'
	constructor = 'D'
	datatype    = 'T'
)

// What a child must be that there never is.
const (
	zero   = '.' // a field that the kind has not, of Text and N, too
	absent = '-' // -1
)

// What a Text must be.
const (
	name    = 'n'
	taken   = 't' // a name, or _
	names   = 'm' // Text2, too
	conName = 'c'
	quoted  = 'q'
)

// What an N must be.
const (
	natural = 'i'
	signed  = 's'
	bit     = 'b'
	sign    = 'o'
	chosen  = 'h' // it has chosen the row
)

// rows is the table, by kind: a letter each for the node itself, its Text, N, A, B and C. NPrim and NHost, whose children hang on N, have theirs below.
var rows = [...]string{
	api.NInt:    "E.i...",
	api.NBool:   "E.b...",
	api.NUnit:   "E.....",
	api.NStr:    "Eq....",
	api.NVar:    "En....",
	api.NCon:    "Ec.e..",
	api.NNil:    "E.....",
	api.NCons:   "E..EE.",
	api.NPair:   "E..EE.",
	api.NFun:    "Et.E..",
	api.NApp:    "E..EE.",
	api.NLet:    "Et.EE.",
	api.NRec:    "Em.EE.",
	api.NIf:     "E..EEE",
	api.NBin:    "E.oEE.",
	api.NSeq:    "E..EE.",
	api.NAssign: "E..EE.",
	api.NMatch:  "E..EL.",
	api.NClause: "L..PEl",
	api.NRaise:  "E..E..",
	api.NTry:    "En.EE.",
	api.NRef:    "E..E..",
	api.NDeref:  "E..E..",
	api.PAny:    "P.....",
	api.PVar:    "Pn....",
	api.PInt:    "P.s...",
	api.PBool:   "P.b...",
	api.PUnit:   "P.....",
	api.PNil:    "P.....",
	api.PCons:   "P..PP.",
	api.PPair:   "P..PP.",
	api.PCon:    "Pc.p..",
	api.YInt:    "Y.....",
	api.YBool:   "Y.....",
	api.YUnit:   "Y.....",
	api.YStr:    "Y.....",
	api.YName:   "Yn....",
	api.YList:   "Y..Y..",
	api.YPair:   "Y..YY.",
	api.DType:   "Tn.D..",
	api.DCon:    "Dc.yd.",
}

// prims is NPrim's rows, by how many words its instruction takes.
var prims = [...]string{
	1: "E.hE--",
	2: "E.hEE-",
	3: "E.hEEE",
}

// hosts is NHost's rows, by its call.
var hosts = [api.Hosts]string{
	api.HEmit: "E.hE-.",
	api.HLog:  "E.hE-.",
	api.HSend: "E.hEE.",
	api.HRecv: "E.h--Y",
}

// rowOf is the row that tells of the node; false, if its kind is none, or its N chooses none.
func rowOf(n api.Node) (string, bool) {
	switch {
	case n.Kind == api.NPrim:
		return primRow(n.N)
	case n.Kind == api.NHost && 0 <= n.N && n.N < api.Hosts:
		return hosts[n.N], true
	case 0 <= n.Kind && n.Kind < len(rows) && rows[n.Kind] != "":
		return rows[n.Kind], true
	}
	return "", false
}

func primRow(n int64) (string, bool) {
	switch n {
	case api.OSize, api.OByte, api.OText, api.OSame, api.OArray, api.OGet, api.OPut, api.OLen:
		takes, _, _ := op.Effect(api.Ins{Op: int(n)})
		return prims[takes], true
	}
	return "", false
}

// isA says whether the node is of that letter.
func isA(n api.Node, letter byte) bool {
	r, ok := rowOf(n)
	return ok && r[itself] == letter
}

// children is A, B and C of a node that has a row, -1 where there is no such child.
func children(n api.Node) [3]int {
	r, _ := rowOf(n)
	told := [...]int{n.A, n.B, n.C}
	for i := range told {
		if r[childA+i] == zero {
			told[i] = -1
		}
	}
	return told
}
