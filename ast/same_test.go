package ast_test

import (
	"math"
	"slices"
	"testing"

	"stockpot/api"
	"stockpot/ast"
)

// P15.1, Same

// same expects that both are alike, or not, whichever stands first.
func same(t *testing.T, want bool, what any, a, b api.Tree) {
	t.Helper()
	if ast.Same(a, b) != want || ast.Same(b, a) != want {
		t.Errorf("%v: Same(%v, %v) = %t, and turned %t", what, a, b, ast.Same(a, b), ast.Same(b, a))
	}
}

// TestSameAsItself holds each sample against each other one: the match, the clause and the _ are in one tree, the recv and the int in one.
func TestSameAsItself(t *testing.T) {
	l := samples()
	alike := 0
	for _, s := range l {
		a, _ := around(s.x)
		for _, other := range l {
			b, _ := around(other.x)
			want := plainText(a) == plainText(b)
			same(t, want, s.String()+" and "+other.String(), a, b)
			if want {
				alike++
			}
		}
	}
	if alike != len(l)+3*2+2 {
		t.Error(alike, "of", len(l), "are alike")
	}
}

func TestSameButForAt(t *testing.T) {
	for _, s := range samples() {
		a, _ := around(s.x)
		for _, at := range []int{math.MinInt, -1, 1, 1 << 40, math.MaxInt} {
			b := a
			for k := range b.Nodes {
				one := with(a, k, func(n *api.Node) { n.At = at })
				same(t, true, s, a, one)
				b = with(b, k, func(n *api.Node) { n.At = at - k })
			}
			same(t, true, s, a, b)
		}
	}
}

func TestSameInAnotherOrder(t *testing.T) {
	x, y := api.Node{Kind: api.NVar, Text: "x"}, api.Node{Kind: api.NVar, Text: "y"}
	a := row(x, y, api.Node{Kind: api.NApp, A: 0, B: 1})
	same(t, true, "x y", a, row(y, x, api.Node{Kind: api.NApp, A: 1, B: 0}))
	same(t, false, "x y and y x", a, row(y, x, api.Node{Kind: api.NApp, A: 0, B: 1}))
	same(t, false, "x y and y x", a, row(x, y, api.Node{Kind: api.NApp, A: 1, B: 0}))
	same(t, true, "x x", row(x, x, api.Node{Kind: api.NApp, A: 0, B: 1}), row(x, x, api.Node{Kind: api.NApp, A: 1, B: 0}))
	same(t, false, "another kind", a, row(x, y, api.Node{Kind: api.NSeq, A: 0, B: 1}))
	p, q := api.Node{Kind: api.PVar, Text: "p"}, api.Node{Kind: api.PAny}
	clause := func(a, b, c int) api.Node { return api.Node{Kind: api.NClause, A: a, B: b, C: c} }
	m := row(x, p, x, q, y, clause(3, 4, -1), clause(1, 2, 5), api.Node{Kind: api.NMatch, A: 0, B: 6})
	may(t, "match x with p -> x | _ -> y end", m)
	same(t, true, "its nodes turned", m, row(q, y, clause(0, 1, -1), p, x, clause(3, 4, 2), x, api.Node{Kind: api.NMatch, A: 6, B: 5}))
	same(t, false, "its clauses turned", m, row(x, p, x, q, y, clause(1, 2, -1), clause(3, 4, 5), api.Node{Kind: api.NMatch, A: 0, B: 6}))
	same(t, false, "one clause", m, row(x, p, x, clause(1, 2, -1), api.Node{Kind: api.NMatch, A: 0, B: 3}))
}

// TestSameWithOneFieldOtherwise gives each Text and N of each kind another one that may be there, and each child another one of its family.
func TestSameWithOneFieldOtherwise(t *testing.T) {
	met := map[[2]int]bool{}
	for _, s := range samples() {
		a, k := around(s.x)
		for f, b := range otherwise(a, k) {
			if plainGood(b) {
				same(t, false, s, a, b)
				met[[2]int{s.x.n.Kind, f % 3}] = true
			}
		}
		for i, kid := range s.x.kids {
			for _, other := range samples() {
				if kid != nil && family(kid.n.Kind) == family(other.x.n.Kind) && (family(kid.n.Kind) != clause || other.x.kids[2] != nil) && (other.x.n.Kind != kid.n.Kind || other.x.n.Text != kid.n.Text) {
					y := &term{s.x.n, s.x.kids}
					y.kids[i] = other.x
					b, _ := around(y)
					may(t, s, b)
					same(t, false, s, a, b)
				}
			}
		}
	}
	const text, text2, number = 0, 1, 2
	for _, kind := range []int{api.NStr, api.NVar, api.NCon, api.NFun, api.NLet, api.NRec, api.NTry, api.PVar, api.PCon, api.YName, api.DType, api.DCon} {
		if !met[[2]int{kind, text}] {
			t.Error("no other Text of", kind)
		}
	}
	for _, kind := range []int{api.NInt, api.NBool, api.NBin, api.NPrim, api.NHost, api.PInt, api.PBool} {
		if !met[[2]int{kind, number}] {
			t.Error("no other N of", kind)
		}
	}
	if !met[[2]int{api.NRec, text2}] || len(met) != 12+7+1 {
		t.Error(met)
	}
}

// otherwise is the tree with another Text, Text2 or N at node k, in turn.
func otherwise(a api.Tree, k int) (l []api.Tree) {
	texts := []string{"y", "Y", "ab", "", "_", "x", "X"}
	for i, n := range []int64{0, 1, 2, 7, -1, api.OSub, api.OCat, api.OText, api.OGet, api.OSize} {
		if i < len(texts) && texts[i] != a.Nodes[k].Text {
			l = append(l, with(a, k, func(n *api.Node) { n.Text = texts[i] }))
		} else {
			l = append(l, api.Tree{})
		}
		if i < len(texts) && texts[i] != a.Nodes[k].Text2 {
			l = append(l, with(a, k, func(n *api.Node) { n.Text2 = texts[i] }))
		} else {
			l = append(l, api.Tree{})
		}
		if n != a.Nodes[k].N {
			l = append(l, with(a, k, func(x *api.Node) { x.N = n }))
		} else {
			l = append(l, api.Tree{})
		}
	}
	return l
}

func TestSameOfTypes(t *testing.T) {
	first := of(api.Node{Kind: api.DType, Text: "t"}, bare)
	second := of(api.Node{Kind: api.DType, Text: "u"}, of(api.Node{Kind: api.DCon, Text: "D", B: -1}, intType))
	a := tree(unit, first, second)
	same(t, true, "both", a, tree(unit, first, second))
	same(t, false, "in another order", a, tree(unit, second, first))
	same(t, false, "the first one alone", a, tree(unit, first))
	same(t, false, "the second one alone", a, tree(unit, second))
	same(t, false, "none", a, tree(unit))
	same(t, false, "one more", a, tree(unit, first, second, second))
	same(t, false, "one more, ahead", a, tree(unit, first, first, second))
	same(t, false, "the first one twice", a, tree(unit, first, first))
	same(t, false, "another expression", a, tree(of(api.Node{Kind: api.NNil}), first, second))
	same(t, false, "another constructor", a, tree(unit, first, of(api.Node{Kind: api.DType, Text: "u"}, of(api.Node{Kind: api.DCon, Text: "E", B: -1}, intType))))
	same(t, false, "a constructor more", a, tree(unit, first, of(api.Node{Kind: api.DType, Text: "u"}, of(api.Node{Kind: api.DCon, Text: "D"}, intType, bare))))
	same(t, false, "another type", a, tree(unit, first, of(api.Node{Kind: api.DType, Text: "u"}, of(api.Node{Kind: api.DCon, Text: "D", B: -1}, of(api.Node{Kind: api.YStr})))))
	same(t, false, "no type", a, tree(unit, first, of(api.Node{Kind: api.DType, Text: "u"}, of(api.Node{Kind: api.DCon, Text: "D", A: -1, B: -1}))))
	b := api.Tree{Types: []int{3, 4}, Root: 5, Nodes: []api.Node{{Kind: api.YInt}, {Kind: api.DCon, Text: "D", B: -1}, bare.n, {Kind: api.DType, Text: "t", A: 2}, {Kind: api.DType, Text: "u", A: 1}, {Kind: api.NUnit}}}
	same(t, true, "their nodes in another order", a, b)
}

func TestSameOfWhatMayNotBe(t *testing.T) {
	good := tree(unit)
	for _, bad := range []api.Tree{{}, {Root: -1}, {Root: 1, Nodes: []api.Node{{Kind: api.NUnit}}}, row(api.Node{Kind: api.NUnit, N: 1}), row(api.Node{Kind: api.PAny}), row(api.Node{}), chain(501), {Types: []int{0}, Nodes: []api.Node{{Kind: api.NUnit}}}} {
		mayNot(t, "bad", bad)
		same(t, false, "bad and good", bad, good)
		same(t, false, "bad and bad", bad, bad)
		again := bad
		again.Nodes, again.Types = slices.Clone(bad.Nodes), slices.Clone(bad.Types)
		same(t, false, "bad and bad again", bad, again)
	}
	same(t, true, "500", chain(500), chain(500))
	same(t, false, "500 and 499", chain(500), chain(499))
	same(t, false, "501", chain(501), chain(501))
	same(t, false, "one of another chain", chain(500), with(chain(500), 0, func(n *api.Node) { n.Kind = api.NNil }))
}

// P15.1, Deep

// deep expects that the tree's Root is so deep.
func deep(t *testing.T, want int, what any, x api.Tree) {
	t.Helper()
	if n := ast.Deep(x); n != want || plainDeep(x.Nodes, x.Root) != want {
		t.Errorf("%v: Deep(%v) = %d, plainly %d, want %d", what, x, n, plainDeep(x.Nodes, x.Root), want)
	}
}

func TestDeepOfEachKind(t *testing.T) {
	for _, s := range samples() {
		x, _ := around(s.x)
		deep(t, s.deep, s, x)
		for _, other := range samples() { // around each expression, one deeper
			for i, kid := range other.x.kids {
				if kid != nil && s.x.n.Kind != api.NClause && family(kid.n.Kind) == expression && family(s.x.n.Kind) == expression && family(other.x.n.Kind) == expression {
					y := &term{other.x.n, other.x.kids}
					y.kids[i] = s.x
					x, _ := around(y)
					deep(t, max(s.deep+1, other.deep), other.String()+" around "+s.String(), x)
				}
			}
		}
	}
}

func TestDeepOfDatatypesIsNothing(t *testing.T) {
	long := intType
	for range 100 {
		long = of(api.Node{Kind: api.YList}, long)
	}
	data := of(api.Node{Kind: api.DType, Text: "t"}, of(api.Node{Kind: api.DCon, Text: "C"}, long, bare))
	deep(t, 1, "a deep type of a datatype", tree(unit, data))
	deep(t, 2, "a deep type of a datatype", tree(of(api.Node{Kind: api.NRef}, unit), data, data))
	deep(t, 102, "a deep type of a recv", tree(of(api.Node{Kind: api.NHost, N: api.HRecv, A: -1, B: -1}, nil, nil, long)))
}

// sunk is an expression so deep.
func sunk(n int) *term {
	x := unit
	for range n - 1 {
		x = of(api.Node{Kind: api.NRaise}, x)
	}
	return x
}

// folded is a pattern so deep.
func folded(n int) *term {
	x := anyone
	for range n - 1 {
		x = of(api.Node{Kind: api.PCon, Text: "C"}, x)
	}
	return x
}

func TestDeepOfClauses(t *testing.T) {
	row := func(on *term, sizes ...[2]int) api.Tree {
		var last *term
		for _, s := range slices.Backward(sizes) {
			n := api.Node{Kind: api.NClause}
			if last == nil {
				n.C = -1
			}
			last = of(n, folded(s[0]), sunk(s[1]), last)
		}
		return tree(of(api.Node{Kind: api.NMatch}, on, last))
	}
	deep(t, 3, "one", row(unit, [2]int{1, 1}))
	deep(t, 3, "two", row(unit, [2]int{1, 1}, [2]int{1, 1}))
	deep(t, 3, "many", row(unit, slices.Repeat([][2]int{{1, 1}}, 166)...))
	for a := range 5 {
		for b := range 5 {
			for c := range 5 {
				deep(t, 1+max(1+a, 2+b, 2+c), "one", row(sunk(1+a), [2]int{1 + b, 1 + c}))
				deep(t, 3+max(a, b, c), "three", row(sunk(1), [2]int{1 + a, 1}, [2]int{1, 1 + b}, [2]int{1 + c, 1}))
				deep(t, 3+max(a, b, c), "three", row(sunk(2), [2]int{1, 1 + a}, [2]int{1 + b, 1}, [2]int{1, 1 + c}))
			}
		}
	}
	deep(t, 3+40, "the last one", row(unit, append(slices.Repeat([][2]int{{1, 1}}, 100), [2]int{1, 41})...))
	deep(t, 3+40, "the last one", row(unit, append(slices.Repeat([][2]int{{1, 1}}, 100), [2]int{41, 1})...))
	within := of(api.Node{Kind: api.NMatch}, unit, only) // a match within a clause is deeper
	deep(t, 5, "a match in a clause", tree(of(api.Node{Kind: api.NMatch}, unit, of(api.Node{Kind: api.NClause, C: -1}, anyone, within))))
	deep(t, 5, "a match in the last clause", tree(of(api.Node{Kind: api.NMatch}, unit, of(api.Node{Kind: api.NClause}, anyone, unit, of(api.Node{Kind: api.NClause, C: -1}, anyone, within)))))
	deep(t, 4, "a match as what is matched", tree(of(api.Node{Kind: api.NMatch}, within, only)))
	deep(t, 4, "beneath another", tree(of(api.Node{Kind: api.NDeref}, within)))
}

func TestDeepOfDeepTrees(t *testing.T) {
	for n := 1; n <= 500; n++ {
		deep(t, n, n, chain(n))
	}
	if n := ast.Deep(chain(501)); n != 0 {
		t.Error(n)
	}
	deep(t, 201, "the first child's", tree(of(api.Node{Kind: api.NApp}, sunk(200), sunk(3))))
	deep(t, 201, "the second child's", tree(of(api.Node{Kind: api.NApp}, sunk(3), sunk(200))))
	deep(t, 101, "the third child's", tree(of(api.Node{Kind: api.NIf}, sunk(3), sunk(99), sunk(100))))
	deep(t, 101, "the second of three", tree(of(api.Node{Kind: api.NIf}, sunk(3), sunk(100), sunk(99))))
	deep(t, 101, "the third of three", tree(of(api.Node{Kind: api.NPrim, N: api.OPut}, sunk(1), sunk(2), sunk(100))))
}

// P15.1, Kids

// kids expects these children of node k.
func kids(t *testing.T, x api.Tree, k int, want ...int) {
	t.Helper()
	if l := ast.Kids(x, k); !slices.Equal(l, want) || len(want) > 0 && !slices.Equal(plainKids(x.Nodes[k]), want) {
		t.Errorf("Kids(%v, %d) = %v, want %v", x, k, l, want)
	}
}

func TestKidsByHand(t *testing.T) {
	unit, any := api.Node{Kind: api.NUnit}, api.Node{Kind: api.PAny}
	x := row(unit, unit, unit, api.Node{Kind: api.NIf, A: 1, B: 2, C: 0})
	kids(t, x, 3, 1, 2, 0)
	kids(t, x, 0)
	kids(t, row(unit, unit, api.Node{Kind: api.NApp, A: 1, B: 0}), 2, 1, 0)
	kids(t, row(api.Node{Kind: api.YInt}, api.Node{Kind: api.NHost, N: api.HRecv, A: -1, B: -1, C: 0}), 1, 0)
	kids(t, row(unit, unit, api.Node{Kind: api.NHost, N: api.HSend, A: 1, B: 0}), 2, 1, 0)
	kids(t, row(unit, api.Node{Kind: api.NHost, N: api.HEmit, A: 0, B: -1}), 1, 0)
	kids(t, row(unit, unit, api.Node{Kind: api.NPrim, N: api.OGet, A: 1, B: 0, C: -1}), 2, 1, 0)
	kids(t, row(api.Node{Kind: api.NCon, Text: "C", A: -1}), 0)
	kids(t, row(unit, api.Node{Kind: api.NCon, Text: "C", A: 0}), 1, 0)
	m := row(any, unit, api.Node{Kind: api.NClause, A: 0, B: 1, C: -1}, unit, any, unit, api.Node{Kind: api.NClause, A: 4, B: 3, C: 2}, api.Node{Kind: api.NMatch, A: 5, B: 6})
	kids(t, m, 7, 5, 6)
	kids(t, m, 6, 4, 3, 2)
	kids(t, m, 2, 0, 1)
	d := tree(of(unit), of(api.Node{Kind: api.DType, Text: "t"}, of(api.Node{Kind: api.DCon, Text: "C"}, intType, bare)))
	kids(t, d, 3, 2)
	kids(t, d, 2, 0, 1)
	kids(t, d, 1)
}

// TestKidsOfEachKind lays terms so that the places of their children are known.
func TestKidsOfEachKind(t *testing.T) {
	for _, s := range samples() {
		x, k := around(s.x)
		var want []int
		for i, kid := range s.x.kids {
			if kid != nil {
				want = append(want, []int{x.Nodes[k].A, x.Nodes[k].B, x.Nodes[k].C}[i])
			}
		}
		kids(t, x, k, want...)
		for _, other := range []int{math.MinInt, -1 << 32, -256 + k, -2, -1, len(x.Nodes), len(x.Nodes) + 1, 256 + k, 500, 1 << 32, 1<<32 + k, math.MaxInt} {
			if l := ast.Kids(x, other); len(l) != 0 {
				t.Errorf("Kids(%v, %d) = %v", x, other, l)
			}
		}
		x.Nodes = append(x.Nodes, api.Node{Kind: api.NUnit}) // a node of nobody: the tree may not be
		for k := range x.Nodes {
			if l := ast.Kids(x, k); len(l) != 0 {
				t.Errorf("Kids(%v, %d) = %v", x, k, l)
			}
		}
	}
}
