package ast_test

import (
	"math"
	"slices"
	"strings"
	"testing"

	"stockpot/api"
	"stockpot/ast"
	"stockpot/op"
)

// P15.1, Good

// may expects that the tree may be.
func may(t *testing.T, what any, x api.Tree) {
	t.Helper()
	if !ast.Good(x) || !plainGood(x) {
		t.Errorf("%v: Good(%v) = %t, plainly %t, want true", what, x, ast.Good(x), plainGood(x))
	}
}

// mayNot expects that the tree may not be, and that nothing is told of it.
func mayNot(t *testing.T, what any, x api.Tree) {
	t.Helper()
	if ast.Good(x) || plainGood(x) {
		t.Errorf("%v: Good(%v) = %t, plainly %t, want false", what, x, ast.Good(x), plainGood(x))
	}
	if ast.Same(x, x) || ast.Deep(x) != 0 {
		t.Errorf("%v: Same(%v) with itself %t, Deep %d", what, x, ast.Same(x, x), ast.Deep(x))
	}
	for _, k := range []int{-1, 0, 1, len(x.Nodes) - 1, x.Root} {
		if l := ast.Kids(x, k); len(l) != 0 {
			t.Errorf("%v: Kids(%v, %d) = %v", what, x, k, l)
		}
	}
}

// held expects that the tree may be, or may not.
func held(t *testing.T, want bool, what any, x api.Tree) {
	t.Helper()
	if want {
		may(t, what, x)
	} else {
		mayNot(t, what, x)
	}
}

// row is the tree of these nodes, the last one its Root.
func row(n ...api.Node) api.Tree { return api.Tree{Nodes: n, Root: len(n) - 1} }

// with is a copy of the tree with the change at node k.
func with(x api.Tree, k int, change func(n *api.Node)) api.Tree {
	x.Nodes = slices.Clone(x.Nodes)
	change(&x.Nodes[k])
	return x
}

// numbers are such that a bound, a sign, a cut or an Op is easily told wrong.
func numbers() []int64 {
	l := []int64{math.MinInt64, math.MinInt64 + 1, -1<<62 - 1, -1 << 62, -1<<62 + 1, -1<<62 + 2, -1 << 32, 1<<62 - 2, 1<<62 - 1, 1 << 62, 1<<62 + 1, math.MaxInt64 - 1, math.MaxInt64}
	for n := int64(-40); n <= 40; n++ {
		l = append(l, n, 1<<8+n, 1<<16+n, 1<<32+n)
	}
	return l
}

func TestTheChaptersExample(t *testing.T) {
	may(t, "one NInt", api.Tree{Nodes: []api.Node{{Kind: api.NInt}}})
	may(t, "one NInt", row(api.Node{Kind: api.NInt, N: 1}))
}

func TestNoNodes(t *testing.T) {
	for _, root := range []int{-2, -1, 0, 1, math.MinInt, math.MaxInt} {
		mayNot(t, "no nodes", api.Tree{Root: root})
		mayNot(t, "no nodes", api.Tree{Nodes: []api.Node{}, Types: []int{}, Root: root})
		mayNot(t, "no nodes", api.Tree{Types: []int{0}, Root: root})
	}
}

// chain is a tree of n nodes, each the child of the next one.
func chain(n int) api.Tree {
	x := api.Tree{Root: n - 1, Nodes: []api.Node{{Kind: api.NUnit}}}
	for k := 1; k < n; k++ {
		x.Nodes = append(x.Nodes, api.Node{Kind: api.NDeref, A: k - 1})
	}
	return x
}

func TestMaxNodes(t *testing.T) {
	for _, n := range []int{1, 2, 3, 255, 256, 257, 498, 499, 500} {
		may(t, n, chain(n))
	}
	for _, n := range []int{501, 502, 512, 756, 1000, 65536 + 1, 100000} {
		mayNot(t, n, chain(n))
	}
	comb := func(n int) api.Tree { // each second node has the one ahead of it and the one two ahead of it
		x := row(api.Node{Kind: api.NUnit})
		for k := 1; k < n; k += 2 {
			x.Nodes = append(x.Nodes, api.Node{Kind: api.NUnit}, api.Node{Kind: api.NApp, A: k - 1, B: k})
		}
		x.Root = len(x.Nodes) - 1
		return x
	}
	may(t, 499, comb(499))
	mayNot(t, 501, comb(501))
	one := row(api.Node{Kind: api.NInt})
	one.Nodes = append(make([]api.Node, 0, 1000), one.Nodes...)
	may(t, "room for more", one)
}

func TestMaxNodesOfTypes(t *testing.T) {
	many := func(n int) api.Tree { // datatypes of one constructor
		var x api.Tree
		for k := 0; k+2 < n; k += 2 {
			x.Nodes = append(x.Nodes, api.Node{Kind: api.DCon, Text: "C", A: -1, B: -1}, api.Node{Kind: api.DType, Text: "t", A: k})
			x.Types = append(x.Types, k+1)
		}
		x.Root = len(x.Nodes)
		x.Nodes = append(x.Nodes, api.Node{Kind: api.NUnit})
		return x
	}
	may(t, 499, many(499))
	mayNot(t, 501, many(501))
	x := many(499)
	x.Types = append(x.Types, x.Types...)
	mayNot(t, "twice as many", x)
	x.Types = make([]int, 1<<20)
	mayNot(t, "far too many", x)
}

func TestEachKind(t *testing.T) {
	met := map[int]bool{}
	for _, s := range samples() {
		x, k := around(s.x)
		if x.Nodes[k].Kind != s.x.n.Kind {
			t.Fatal(s, "is not where it is told to be")
		}
		met[s.x.n.Kind] = true
		may(t, s, x)
	}
	for k := 1; k <= 43; k++ {
		if !met[k] {
			t.Error("no sample of kind", k)
		}
	}
}

func TestEachFieldThatAKindHasNot(t *testing.T) {
	for _, s := range samples() {
		x, k := around(s.x)
		has := " " + s.has + " "
		for _, other := range []string{"x", "X", "_", " ", "\x00", "\n", "int", strings.Repeat("x", 61)} {
			if !strings.Contains(has, " Text ") {
				mayNot(t, s, with(x, k, func(n *api.Node) { n.Text = other }))
			}
			if !strings.Contains(has, " Text2 ") {
				mayNot(t, s, with(x, k, func(n *api.Node) { n.Text2 = other }))
			}
		}
		for _, other := range numbers() {
			if !strings.Contains(has, " N ") && other != 0 {
				mayNot(t, s, with(x, k, func(n *api.Node) { n.N = other }))
			}
			n := x.Nodes[k]
			if !strings.Contains(has, " A ") && int(other) != n.A {
				mayNot(t, s, with(x, k, func(n *api.Node) { n.A = int(other) }))
			}
			if !strings.Contains(has, " B ") && int(other) != n.B {
				mayNot(t, s, with(x, k, func(n *api.Node) { n.B = int(other) }))
			}
			if !strings.Contains(has, " C ") && int(other) != n.C {
				mayNot(t, s, with(x, k, func(n *api.Node) { n.C = int(other) }))
			}
		}
	}
}

func TestAtIsAnyNumber(t *testing.T) {
	for _, s := range samples() {
		x, k := around(s.x)
		for _, at := range []int{math.MinInt, -1 << 32, -1, 0, 1, 2000, 2001, 1 << 40, math.MaxInt} {
			may(t, s, with(x, k, func(n *api.Node) { n.At = at }))
		}
	}
}

func TestNumbersThatAreNoKind(t *testing.T) {
	for _, kind := range []int{math.MinInt, -1 << 32, -256 + 1, -44, -43, -2, -1, 0, 44, 45, 63, 64, 100, 128, 255, 256, 257, 256 + 30, 1<<16 + 1, 1 << 31, 1 << 32, 1<<32 + 1, 1<<32 + 26, 1 << 62, math.MaxInt - 1, math.MaxInt} {
		mayNot(t, kind, row(api.Node{Kind: kind}))
		mayNot(t, kind, row(api.Node{Kind: kind}, api.Node{Kind: api.NRef}))
		for _, s := range samples() {
			x, k := around(s.x)
			mayNot(t, s, with(x, k, func(n *api.Node) { n.Kind = kind }))
		}
	}
}

// TestEachKindAsEachOther holds each sample, its kind changed, against the plain telling: a few kinds have the same fields.
func TestEachKindAsEachOther(t *testing.T) {
	for _, s := range samples() {
		x, k := around(s.x)
		for kind := range 50 {
			y := with(x, k, func(n *api.Node) { n.Kind = kind })
			held(t, plainGood(y), s, y)
		}
	}
}

func TestTheRootIsTheLastNode(t *testing.T) {
	whole, _ := around(others()[len(others())-1].x)
	for _, x := range []api.Tree{chain(1), chain(3), whole} {
		for _, root := range []int{math.MinInt, -1 << 32, -2, -1, 0, 1, 2, 3, 4, 5, 1 << 32, 1<<32 + x.Root, math.MaxInt} {
			y := x
			y.Root = root
			held(t, root == x.Root, root, y)
		}
	}
	mayNot(t, "something behind it", api.Tree{Nodes: []api.Node{{Kind: api.NUnit}, {Kind: api.NUnit}}})
	mayNot(t, "a type behind it", api.Tree{Nodes: []api.Node{{Kind: api.NUnit}, {Kind: api.DCon, Text: "C", A: -1, B: -1}, {Kind: api.DType, Text: "t", A: 1}}, Types: []int{2}})
	mayNot(t, "a pattern behind it", api.Tree{Nodes: []api.Node{{Kind: api.NUnit}, {Kind: api.PAny}}})
}

func TestTheRootIsAnExpression(t *testing.T) {
	for _, s := range samples() {
		x := tree(s.x)
		held(t, family(s.x.n.Kind) == expression, s, x)
		x.Types = []int{x.Root}
		mayNot(t, s, x)
	}
}

func TestEachNodeIsTheChildOfOne(t *testing.T) {
	unit, one, app := api.Node{Kind: api.NUnit}, api.Node{Kind: api.NDeref}, api.Node{Kind: api.NApp, B: 1}
	may(t, "each of one", row(unit, unit, app))
	mayNot(t, "the second of none", row(unit, unit))
	mayNot(t, "the second of none", row(unit, unit, one))
	mayNot(t, "the first of none", row(unit, unit, api.Node{Kind: api.NDeref, A: 1}))
	mayNot(t, "the third of none", row(unit, unit, unit, app))
	mayNot(t, "a tree of its own", row(unit, one, unit, api.Node{Kind: api.NDeref, A: 2}))
	mayNot(t, "twice of one", row(unit, api.Node{Kind: api.NApp}))
	mayNot(t, "twice of one, another of none", row(unit, unit, api.Node{Kind: api.NApp}))
	mayNot(t, "twice of one, another of none", row(unit, unit, api.Node{Kind: api.NApp, A: 1, B: 1}))
	mayNot(t, "three times of one", row(unit, api.Node{Kind: api.NIf}))
	mayNot(t, "three times of one, others of none", row(unit, unit, unit, api.Node{Kind: api.NIf, A: 1, B: 1, C: 1}))
	mayNot(t, "of two", row(unit, one, app))
	mayNot(t, "of two, another of none", row(unit, unit, one, api.Node{Kind: api.NApp, B: 2}))
	mayNot(t, "a pattern of none", row(api.Node{Kind: api.PAny}, unit))
	mayNot(t, "a type of none", row(api.Node{Kind: api.YInt}, unit))
	mayNot(t, "a clause of none", row(api.Node{Kind: api.PAny}, unit, api.Node{Kind: api.NClause, B: 1, C: -1}, unit))
	mayNot(t, "a constructor of none", row(api.Node{Kind: api.DCon, Text: "C", A: -1, B: -1}, unit))
	mayNot(t, "a datatype of none", row(api.Node{Kind: api.DCon, Text: "C", A: -1, B: -1}, api.Node{Kind: api.DType, Text: "t"}, unit))
}

func TestEachChildOfEachKindTwice(t *testing.T) {
	for _, s := range samples() {
		x, k := around(s.x)
		for at := range x.Nodes { // each other child of the node instead of this one
			for _, p := range plainKids(x.Nodes[k]) {
				for i, c := range []int{x.Nodes[k].A, x.Nodes[k].B, x.Nodes[k].C} {
					if c != p || c == at {
						continue
					}
					y := with(x, k, func(n *api.Node) { *[]*int{&n.A, &n.B, &n.C}[i] = at })
					mayNot(t, s, y)
				}
			}
		}
	}
}

func TestTopsAreNoChildren(t *testing.T) {
	mayNot(t, "the Root of itself", row(api.Node{Kind: api.NDeref}))
	mayNot(t, "the Root of another", row(api.Node{Kind: api.NDeref, A: 2}, api.Node{Kind: api.NUnit}, api.Node{Kind: api.NApp, A: 0, B: 1}))
	data := of(api.Node{Kind: api.DType, Text: "t"}, bare)
	for _, s := range samples() {
		for i := range s.x.kids {
			y := &term{s.x.n, s.x.kids}
			y.kids[i] = data
			x, k := around(y)
			mayNot(t, s, x)
			x.Types = []int{x.Nodes[k].A, x.Nodes[k].B, x.Nodes[k].C}[i : i+1 : i+1]
			mayNot(t, s, x)
		}
	}
}

func TestChildrenThatAreNoNodes(t *testing.T) {
	for _, s := range samples() {
		x, k := around(s.x)
		kids := plainKids(x.Nodes[k])
		last := len(x.Nodes) - 1
		for i, c := range []int{x.Nodes[k].A, x.Nodes[k].B, x.Nodes[k].C} {
			if !slices.Contains(kids, c) {
				continue
			}
			for _, other := range []int{math.MinInt, -1 << 32, -1<<32 + c, -1 << 62, -256 + c, -3, -2, -1, k, k + 1, last, last + 1, last + 2, 256 + c, 500, 501, 1 << 16, 1 << 32, 1<<32 + c, math.MaxInt} {
				mayNot(t, s, with(x, k, func(n *api.Node) { *[]*int{&n.A, &n.B, &n.C}[i] = other }))
			}
		}
	}
}

func TestChildrenStandAhead(t *testing.T) {
	unit, any := api.Node{Kind: api.NUnit}, api.Node{Kind: api.PAny}
	mayNot(t, "behind", row(api.Node{Kind: api.NDeref, A: 1}, unit))
	mayNot(t, "behind", row(unit, api.Node{Kind: api.NApp, B: 2}, unit, api.Node{Kind: api.NDeref, A: 1}))
	mayNot(t, "each of the other", row(api.Node{Kind: api.NDeref, A: 1}, api.Node{Kind: api.NDeref}, unit))
	mayNot(t, "itself, and the Root", row(api.Node{Kind: api.NDeref}, unit))
	mayNot(t, "a clause behind its match", row(unit, any, unit, api.Node{Kind: api.NMatch, B: 4}, api.Node{Kind: api.NClause, A: 1, B: 2, C: -1}, api.Node{Kind: api.NDeref, A: 3}))
	mayNot(t, "a clause behind the one that has it", row(unit, any, unit, any, unit, api.Node{Kind: api.NClause, A: 1, B: 2, C: 6}, api.Node{Kind: api.NClause, A: 3, B: 4, C: -1}, api.Node{Kind: api.NMatch, B: 5}))
	con := api.Node{Kind: api.DCon, Text: "C", A: -1, B: -1}
	mayNot(t, "a datatype's behind it", api.Tree{Nodes: []api.Node{{Kind: api.DType, Text: "t", A: 1}, con, unit}, Types: []int{0}, Root: 2})
	mayNot(t, "a constructor behind the one that has it", api.Tree{Nodes: []api.Node{{Kind: api.DCon, Text: "C", A: -1, B: 1}, con, {Kind: api.DType, Text: "t"}, unit}, Types: []int{2}, Root: 3})
	mayNot(t, "a type behind the one that has it", row(api.Node{Kind: api.YList, A: 1}, api.Node{Kind: api.YInt}, api.Node{Kind: api.NHost, N: api.HRecv, A: -1, B: -1}))
	// of two that are not beneath one another either may stand first
	may(t, "turned", row(unit, unit, api.Node{Kind: api.NApp, A: 1, B: 0}))
	may(t, "turned", row(unit, unit, any, api.Node{Kind: api.NClause, A: 2, B: 1, C: -1}, api.Node{Kind: api.NMatch, A: 0, B: 3}))
	may(t, "far ahead", row(unit, unit, api.Node{Kind: api.NDeref, A: 1}, api.Node{Kind: api.NDeref, A: 2}, api.Node{Kind: api.NApp, A: 3, B: 0}))
}

func TestEachPlaceWithEachKind(t *testing.T) {
	met := map[[2]int]bool{}
	for _, s := range samples() {
		for i, kid := range s.x.kids {
			if kid == nil {
				continue
			}
			for _, other := range samples() {
				y := &term{s.x.n, s.x.kids}
				y.kids[i] = other.x
				x, _ := around(y)
				held(t, family(other.x.n.Kind) == family(kid.n.Kind), s.String()+" with "+other.String(), x)
				met[[2]int{family(kid.n.Kind), family(other.x.n.Kind)}] = true
			}
		}
	}
	if len(met) != (families-1)*families { // datatypes are nobody's children
		t.Error(len(met), met)
	}
}

// mayLack is which of a kind's A, B, C (0, 1, 2) may be -1 as well as a child, and of which family the child is.
func mayLack(kind, i int) (fam int, ok bool) {
	switch [2]int{kind, i} {
	case [2]int{api.NCon, 0}:
		return expression, true
	case [2]int{api.NClause, 2}:
		return clause, true
	case [2]int{api.PCon, 0}:
		return pattern, true
	case [2]int{api.DCon, 0}:
		return typ, true
	case [2]int{api.DCon, 1}:
		return constructor, true
	}
	return 0, false
}

// TestEachPlaceWithoutItsChild takes each child away, so that nothing is left over.
func TestEachPlaceWithoutItsChild(t *testing.T) {
	for _, s := range samples() {
		for i, kid := range s.x.kids {
			if kid == nil {
				continue
			}
			y := &term{s.x.n, s.x.kids}
			y.kids[i] = nil
			f := []*int{&y.n.A, &y.n.B, &y.n.C}[i]
			*f = -1
			_, want := mayLack(s.x.n.Kind, i)
			x, _ := around(y)
			held(t, want, s, x)
			*f = -2
			x, _ = around(y)
			mayNot(t, s, x)
			*f = 1000
			x, _ = around(y)
			mayNot(t, s, x)
		}
	}
}

// TestEachPlaceWithAChildMore gives each kind a child of each kind where it has none.
func TestEachPlaceWithAChildMore(t *testing.T) {
	for _, s := range samples() {
		for i, kid := range s.x.kids {
			for _, other := range samples() {
				if kid != nil {
					continue
				}
				y := &term{s.x.n, s.x.kids}
				y.kids[i] = other.x
				x, _ := around(y)
				fam, want := mayLack(s.x.n.Kind, i)
				held(t, want && fam == family(other.x.n.Kind), s.String()+" with "+other.String(), x)
			}
		}
	}
}

func TestTypes(t *testing.T) {
	data := of(api.Node{Kind: api.DType, Text: "t"}, bare)
	more := of(api.Node{Kind: api.DType, Text: "u"}, of(api.Node{Kind: api.DCon, Text: "D", B: -1}, intType))
	x := tree(unit, data, more, data) // datatypes 1, 4, 6, Root 7
	for _, types := range [][]int{{1, 4, 6}} {
		x.Types = types
		may(t, types, x)
	}
	for _, types := range [][]int{
		nil, {}, {1}, {4}, {6}, {1, 4}, {1, 6}, {4, 6}, {1, 6, 4}, {4, 1, 6}, {6, 4, 1}, {6, 1, 4}, {4, 6, 1}, {1, 1, 4, 6}, {1, 4, 4, 6}, {1, 4, 6, 6}, {1, 4, 6, 1},
		{0, 1, 4, 6}, {1, 2, 4, 6}, {1, 3, 4, 6}, {1, 4, 5, 6}, {1, 4, 6, 7}, {-1, 1, 4, 6}, {math.MinInt, 1, 4, 6}, {1, 4, 6, 8}, {1, 4, 6, 500}, {1, 4, 6, math.MaxInt}, {0, 4, 6}, {1, 3, 6}, {1, 4, 7}, {1, 4, 8}, {-1, 4, 6}, {-1}, {8}, {0}, {1, 4, 5},
		{1, 4, 1<<32 + 6}, {1 - 1<<32, 4, 6}, {1, 4, 6, 1<<32 + 1},
	} {
		x.Types = types
		mayNot(t, types, x)
	}
	for _, s := range samples() { // each kind where a datatype is asked
		y, _ := around(s.x)
		if len(y.Types) > 0 {
			continue
		}
		for k := range y.Nodes {
			y.Types = []int{k}
			mayNot(t, s, y)
		}
	}
	may(t, "types behind one another, and within", tree(unit, of(api.Node{Kind: api.DType, Text: "t"}, of(api.Node{Kind: api.DCon, Text: "C"}, of(api.Node{Kind: api.YName, Text: "none"}), bare))))
}

func TestDatatypesWhereverTheyStand(t *testing.T) {
	unit, con := api.Node{Kind: api.NUnit}, api.Node{Kind: api.DCon, Text: "C", A: -1, B: -1}
	may(t, "behind an expression", api.Tree{Nodes: []api.Node{unit, con, {Kind: api.DType, Text: "t", A: 1}, {Kind: api.NDeref}}, Types: []int{2}, Root: 3})
	may(t, "within one another", api.Tree{Nodes: []api.Node{con, con, {Kind: api.DType, Text: "u", A: 1}, {Kind: api.DType, Text: "t", A: 0}, unit}, Types: []int{2, 3}, Root: 4})
	mayNot(t, "two of one constructor", api.Tree{Nodes: []api.Node{con, {Kind: api.DType, Text: "u"}, {Kind: api.DType, Text: "t"}, unit}, Types: []int{1, 2}, Root: 3})
	mayNot(t, "two of one constructor, another of none", api.Tree{Nodes: []api.Node{con, con, {Kind: api.DType, Text: "u"}, {Kind: api.DType, Text: "t"}, unit}, Types: []int{2, 3}, Root: 4})
}

func TestClauses(t *testing.T) {
	unit, any := api.Node{Kind: api.NUnit}, api.Node{Kind: api.PAny}
	two := row(unit, any, unit, any, unit, api.Node{Kind: api.NClause, A: 3, B: 4, C: -1}, api.Node{Kind: api.NClause, A: 1, B: 2, C: 5}, api.Node{Kind: api.NMatch, B: 6})
	may(t, "two in a row", two)
	mayNot(t, "the second one left out", with(two, 6, func(n *api.Node) { n.C = -1 }))
	mayNot(t, "the second one taken, the first one left out", with(two, 7, func(n *api.Node) { n.B = 5 }))
	mayNot(t, "in a ring", with(two, 5, func(n *api.Node) { n.C = 6 }))
	mayNot(t, "of itself", with(two, 5, func(n *api.Node) { n.C = 5 }))
	mayNot(t, "as A of a match", with(two, 7, func(n *api.Node) { n.A = 6 }))
	mayNot(t, "as A of a clause", with(two, 6, func(n *api.Node) { n.A = 5 }))
	mayNot(t, "as B of a clause", with(two, 6, func(n *api.Node) { n.B, n.C = 5, -1 }))
	mayNot(t, "no clause in a clause's C", with(two, 6, func(n *api.Node) { n.C = 2 }))
	last := of(api.Node{Kind: api.NClause, C: -1}, anyone, of(api.Node{Kind: api.NVar, Text: "x"}))
	for n := 1; n <= 166; n++ {
		x := tree(of(api.Node{Kind: api.NMatch}, of(unit), last))
		may(t, n, x)
		if len(x.Nodes) != 3*n+2 {
			t.Fatal(n, len(x.Nodes))
		}
		last = of(api.Node{Kind: api.NClause}, anyone, of(api.Node{Kind: api.NInt, N: int64(n)}), last)
	}
	mayNot(t, 167, tree(of(api.Node{Kind: api.NMatch}, of(unit), last)))
	for _, s := range samples() {
		if family(s.x.n.Kind) == expression { // a match within what clauses are between
			may(t, s, tree(of(api.Node{Kind: api.NMatch}, s.x, of(api.Node{Kind: api.NClause}, anyone, s.x, of(api.Node{Kind: api.NClause, C: -1}, anyone, s.x)))))
		}
	}
}

// TestConstructorsInARow has a datatype's DCons in each order in which they may stand.
func TestConstructorsInARow(t *testing.T) {
	last := bare
	for n := 1; n <= 498; n++ {
		x := tree(unit, of(api.Node{Kind: api.DType, Text: "t"}, last))
		if may(t, n, x); len(x.Nodes) != n+2 {
			t.Fatal(n, len(x.Nodes))
		}
		last = of(api.Node{Kind: api.DCon, Text: "C", A: -1}, nil, last)
	}
	mayNot(t, 499, tree(unit, of(api.Node{Kind: api.DType, Text: "t"}, last)))
	x := tree(unit, of(api.Node{Kind: api.DType, Text: "t"}, of(api.Node{Kind: api.DCon, Text: "C"}, intType, bare))) // int, Bare, C, t, ()
	mayNot(t, "a type as the next one", with(x, 2, func(n *api.Node) { n.A, n.B = 1, 0 }))
	mayNot(t, "a constructor as its type", with(x, 2, func(n *api.Node) { n.A, n.B = 1, -1 }))
	mayNot(t, "the same twice", with(x, 2, func(n *api.Node) { n.A, n.B = 1, 1 }))
	mayNot(t, "a type as the first one", with(x, 3, func(n *api.Node) { n.A = 0 }))
	mayNot(t, "the first one left out", with(x, 3, func(n *api.Node) { n.A = 1 }))
	mayNot(t, "none", with(x, 3, func(n *api.Node) { n.A = -1 }))
}

func TestNumbers(t *testing.T) {
	const great = 4611686018427387903
	for _, n := range numbers() {
		held(t, n >= 0 && n <= great, n, row(api.Node{Kind: api.NInt, N: n}))
		held(t, n == 0 || n == 1, n, row(api.Node{Kind: api.NBool, N: n}))
		x, _ := around(of(api.Node{Kind: api.PInt, N: n}))
		held(t, n >= -great && n <= great, n, x)
		x, _ = around(of(api.Node{Kind: api.PBool, N: n}))
		held(t, n == 0 || n == 1, n, x)
	}
}

func TestEachOpOfABin(t *testing.T) {
	ops := []int64{api.OAdd, api.OSub, api.OMul, api.ODiv, api.OMod, api.OEq, api.OLess, api.OCat}
	for _, n := range numbers() {
		held(t, slices.Contains(ops, n), n, tree(of(api.Node{Kind: api.NBin, N: n}, unit, unit)))
		mayNot(t, n, tree(of(api.Node{Kind: api.NBin, N: n}, unit)))
		mayNot(t, n, tree(of(api.Node{Kind: api.NBin, N: n, B: -1}, unit)))
		mayNot(t, n, tree(of(api.Node{Kind: api.NBin, N: n, C: -1}, unit, unit)))
		mayNot(t, n, tree(of(api.Node{Kind: api.NBin, N: n}, unit, unit, unit)))
	}
}

func TestEachOpOfAPrim(t *testing.T) {
	takes := map[int64]int{api.OSize: 1, api.OByte: 2, api.OText: 1, api.OSame: 2, api.OArray: 2, api.OGet: 2, api.OPut: 3, api.OLen: 1}
	for _, n := range numbers() {
		if i, _, _ := op.Effect(api.Ins{Op: int(n)}); takes[n] != 0 && i != takes[n] {
			t.Error(n, "takes", i)
		}
		for a := range 3 {
			for b := range 3 {
				for c := range 3 {
					x := tree(arranged(api.Node{Kind: api.NPrim, N: n}, a, b, c, deref))
					want := takes[n]
					held(t, want > 0 && a == 2 && (b == 2) == (want > 1) && b > 0 && (c == 2) == (want > 2) && c > 0, n, x)
				}
			}
		}
	}
}

// A child that is never node 0, so that a 0 is not the child by chance.
var (
	deref = of(api.Node{Kind: api.NDeref}, unit)
	ints  = of(api.Node{Kind: api.YList}, intType)
)

// arranged is the node with A, B and C each 0 (told by 0), -1 (1) or the child (2).
func arranged(n api.Node, a, b, c int, kid *term) *term {
	x := of(n)
	for i, what := range []int{a, b, c} {
		*[]*int{&x.n.A, &x.n.B, &x.n.C}[i] = []int{0, -1, 0}[what]
		if what == 2 {
			x.kids[i] = kid
		}
	}
	return x
}

func TestEachCallOfAHost(t *testing.T) {
	const zero, none, there = 0, 1, 2
	for _, n := range numbers() {
		for a := range 3 {
			for b := range 3 {
				for c := range 3 {
					at := [3]int{a, b, c}
					want := (n == 0 || n == 1) && at == [3]int{there, none, zero} || n == 2 && at == [3]int{there, there, zero}
					held(t, want, n, tree(arranged(api.Node{Kind: api.NHost, N: n}, a, b, c, deref)))
					held(t, n == 3 && at == [3]int{none, none, there}, n, tree(arranged(api.Node{Kind: api.NHost, N: n}, a, b, c, ints)))
				}
			}
		}
	}
	for _, s := range samples() { // what is received is a type, and nothing else
		x := tree(of(api.Node{Kind: api.NHost, N: api.HRecv, A: -1, B: -1}, nil, nil, s.x))
		held(t, family(s.x.n.Kind) == typ, s, x)
	}
}
