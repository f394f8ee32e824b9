package ast_test

import (
	"math"
	"math/rand"
	"reflect"
	"slices"
	"testing"

	"stockpot/api"
	"stockpot/ast"
)

// maker makes random terms of the samples; it has so many nodes left, about.
type maker struct {
	r    *rand.Rand
	left int
	from []sample
}

// one is a random text of the list.
func (m *maker) one(l ...string) string { return l[m.r.Intn(len(l))] }

// number is a random number from the least to the greatest that may be.
func (m *maker) number(least, greatest int64) int64 {
	switch m.r.Intn(3) {
	case 0:
		return []int64{least, greatest, 0}[m.r.Intn(3)]
	case 1:
		return m.r.Int63n(10)
	}
	return m.r.Int63() >> 1
}

// make is a random term of the family; once few nodes are left it is one without children, where there is such a one.
func (m *maker) make(fam int) *term {
	m.left--
	var l []sample
	for _, s := range m.from {
		bare := s.x.kids == [3]*term{}
		if family(s.x.n.Kind) == fam && (m.left > 0 || bare || fam == clause || fam == datatype) {
			l = append(l, s)
		}
	}
	if m.left <= 0 && fam == clause {
		l = l[:1] // no clause behind it
	}
	s := l[m.r.Intn(len(l))]
	if fam == expression && m.left > 0 && m.r.Intn(6) == 0 { // matches have most below them
		s = m.from[slices.IndexFunc(m.from, func(s sample) bool { return s.x.n.Kind == api.NMatch })]
	}
	x := &term{n: s.x.n}
	m.vary(&x.n)
	for i, kid := range s.x.kids {
		if kid != nil {
			x.kids[i] = m.make(family(kid.n.Kind))
		}
	}
	return x
}

// vary gives the node another text and number that may be there.
func (m *maker) vary(n *api.Node) {
	switch n.Kind {
	case api.NVar, api.NRec, api.NTry, api.PVar, api.YName, api.DType:
		n.Text = m.one("x", "y", "f", "_a", "abcdefghijkl")
	case api.NFun, api.NLet:
		n.Text = m.one("x", "y", "_", "_1")
	case api.NCon, api.PCon, api.DCon:
		n.Text = m.one("A", "B", "Abcdefghijkl")
	case api.NStr:
		n.Text = m.one("", "a", "\n", "\"", "a b")
	case api.NInt:
		n.N = m.number(0, 1<<62-1)
	case api.PInt:
		n.N = m.number(-(1<<62 - 1), 1<<62-1)
	case api.NBool, api.PBool:
		n.N = m.r.Int63n(2)
	case api.NBin:
		n.N = []int64{api.OAdd, api.OSub, api.OMul, api.ODiv, api.OMod, api.OEq, api.OLess, api.OCat}[m.r.Intn(8)]
	}
	if n.Kind == api.NRec {
		n.Text2 = m.one("x", "y", "z")
	}
	n.At = m.r.Intn(100) - 50
}

// random is a random tree's terms: an expression, and up to three datatypes.
func random(r *rand.Rand) (*term, []*term) {
	m := &maker{r, 1 + r.Intn(40), samples()}
	var types []*term
	for range r.Intn(4) {
		types = append(types, m.make(datatype))
		m.left = max(m.left, 1+r.Intn(20))
	}
	return m.make(expression), types
}

// shuffled is the tree, its nodes in a random order in which children stand ahead, datatypes in theirs, and the Root last.
func shuffled(r *rand.Rand, t api.Tree) api.Tree {
	var out api.Tree
	at := make([]int, len(t.Nodes)) // where each node lies now, counted from 1
	types := t.Types
	for len(out.Nodes) < len(t.Nodes) {
		k := r.Intn(len(t.Nodes))
		ready := at[k] == 0 && (k != t.Root || len(out.Nodes) == len(t.Nodes)-1)
		for _, c := range plainKids(t.Nodes[k]) {
			ready = ready && at[c] > 0
		}
		if t.Nodes[k].Kind == api.DType {
			ready = ready && k == types[0]
		}
		if !ready {
			continue
		}
		n := t.Nodes[k]
		kids := plainKids(n)
		for i, f := range []*int{&n.A, &n.B, &n.C} {
			has := slices.Contains([]rune(plainPlaces(n)), []rune("ABC")[i])
			if has && *f != -1 && slices.Contains(kids, *f) {
				*f = at[*f] - 1
			}
		}
		n.At = r.Intn(1000)
		out.Nodes = append(out.Nodes, n)
		at[k] = len(out.Nodes)
		if n.Kind == api.DType {
			types = types[1:]
			out.Types = append(out.Types, at[k]-1)
		}
	}
	out.Root = len(out.Nodes) - 1
	return out
}

// roomy is a copy of the tree whose lists have spare room with something in it, and the whole of both lists.
func roomy(t api.Tree) (api.Tree, []api.Node, []int) {
	nodes := append(slices.Clone(t.Nodes), api.Node{Kind: api.NUnit, Text: "spare"}, api.Node{Kind: api.NNil, At: 7})
	types := append(slices.Clone(t.Types), 12345, -7)
	x := api.Tree{Nodes: nodes[:len(t.Nodes)], Types: types[:len(t.Types)], Root: t.Root}
	return x, nodes, types
}

// asked asks all of the trees, which must be as they were behind it.
func asked(t *testing.T, x, y api.Tree) {
	t.Helper()
	a, nodes, types := roomy(x)
	b, nodesB, typesB := roomy(y)
	was, wasTypes := slices.Clone(nodes), slices.Clone(types)
	wasB, wasTypesB := slices.Clone(nodesB), slices.Clone(typesB)
	good, goodB := plainGood(x), plainGood(y)
	if ast.Good(a) != good || ast.Good(b) != goodB {
		t.Fatalf("Good(%v) = %t, want %t; Good(%v) = %t, want %t", x, ast.Good(a), good, y, ast.Good(b), goodB)
	}
	want := good && goodB && plainText(x) == plainText(y)
	if ast.Same(a, b) != want || ast.Same(b, a) != want || ast.Same(a, a) != good {
		t.Fatalf("Same(%v, %v) = %t, want %t", x, y, ast.Same(a, b), want)
	}
	depth := 0
	if good {
		depth = plainDeep(x.Nodes, x.Root)
	}
	if n := ast.Deep(a); n != depth {
		t.Fatalf("Deep(%v) = %d, want %d", x, n, depth)
	}
	for k := -2; k < len(x.Nodes)+2; k++ {
		var want []int
		if good && k >= 0 && k < len(x.Nodes) {
			want = plainKids(x.Nodes[k])
		}
		if l := ast.Kids(a, k); !slices.Equal(l, want) {
			t.Fatalf("Kids(%v, %d) = %v, want %v", x, k, l, want)
		}
	}
	if !slices.Equal(nodes, was) || !slices.Equal(types, wasTypes) || !slices.Equal(nodesB, wasB) || !slices.Equal(typesB, wasTypesB) {
		t.Fatalf("%v, %v are now %v, %v", x, y, a, b)
	}
}

func TestRandomTrees(t *testing.T) {
	r := rand.New(rand.NewSource(1))
	met := map[int]int{}
	last := tree(unit)
	for range 1500 {
		root, types := random(r)
		x := tree(root, types...)
		if len(x.Nodes) > 500 {
			continue
		}
		may(t, "random", x)
		y := shuffled(r, x)
		asked(t, x, y)
		same(t, true, "shuffled", x, y)
		asked(t, x, last)
		last = y
		met[len(x.Types)]++
		for _, n := range x.Nodes {
			met[100+n.Kind]++
		}
	}
	for k := range 4 {
		if met[k] < 100 {
			t.Error("only", met[k], "trees with", k, "datatypes")
		}
	}
	for k := 1; k <= 43; k++ {
		if met[100+k] < 100 {
			t.Error("only", met[100+k], "nodes of kind", k)
		}
	}
}

// TestSpoiltTrees changes one thing of each, and holds what is told against the plain telling.
func TestSpoiltTrees(t *testing.T) {
	r := rand.New(rand.NewSource(2))
	met := [2]int{}
	for range 8000 {
		root, types := random(r)
		x := tree(root, types...)
		if len(x.Nodes) > 60 {
			continue
		}
		x = shuffled(r, x)
		y := spoilt(r, x)
		asked(t, y, x)
		if plainGood(y) {
			met[1]++
		} else {
			met[0]++
		}
	}
	if met[0] < 1000 || met[1] < 100 {
		t.Error(met)
	}
}

// spoilt is the tree with one thing changed, nearly always so that it may not be.
func spoilt(r *rand.Rand, x api.Tree) api.Tree {
	x.Nodes, x.Types = slices.Clone(x.Nodes), slices.Clone(x.Types)
	n := &x.Nodes[r.Intn(len(x.Nodes))]
	number := []int{-2, -1, 0, 1, r.Intn(len(x.Nodes)), len(x.Nodes) - 1, len(x.Nodes), 1 << 32, math.MinInt, math.MaxInt}[r.Intn(10)]
	text := []string{"", "_", "x", "X", "let", "int", "a b", "\t", "abcdefghijklm"}[r.Intn(9)]
	switch r.Intn(13) {
	case 0:
		n.Kind = r.Intn(45)
	case 1:
		n.Text = text
	case 2:
		n.Text2 = text
	case 3:
		n.N = []int64{-1, 0, 1, 2, 3, 4, r.Int63n(40), -1 << 62, 1 << 62, 1<<62 - 1}[r.Intn(10)]
	case 4:
		n.A = number
	case 5:
		n.B = number
	case 6:
		n.C = number
	case 7:
		n.At = number
	case 8:
		x.Root = number
	case 9:
		x.Types = append(x.Types, number)
	case 10:
		x.Types = x.Types[:r.Intn(len(x.Types)+1)]
	case 11:
		x.Nodes = x.Nodes[:r.Intn(len(x.Nodes)+1)]
	case 12:
		i, j := r.Intn(len(x.Nodes)), r.Intn(len(x.Nodes))
		x.Nodes[i], x.Nodes[j] = x.Nodes[j], x.Nodes[i]
	}
	return x
}

// TestRandomNodes makes trees of nodes that nobody chose to go together.
func TestRandomNodes(t *testing.T) {
	r := rand.New(rand.NewSource(3))
	good := 0
	for range 400000 {
		var x api.Tree
		for k := range 1 + r.Intn(4) {
			n := api.Node{Kind: r.Intn(44), N: []int64{0, 0, 0, 1, 3, 12, 29}[r.Intn(7)], Text: []string{"", "", "x", "X"}[r.Intn(4)]}
			for _, f := range []*int{&n.A, &n.B, &n.C} {
				*f = []int{0, 0, -1, k - 1, r.Intn(k + 1)}[r.Intn(5)]
			}
			x.Nodes = append(x.Nodes, n)
		}
		x.Root = len(x.Nodes) - 1
		if ast.Good(x) != plainGood(x) {
			t.Fatalf("Good(%v) = %t", x, ast.Good(x))
		}
		if plainGood(x) {
			good++
			asked(t, x, x)
		}
	}
	if good < 500 {
		t.Error("only", good)
	}
}

// TestEachFieldOfEachSampleAsEachNumber holds each number near a bound at each field, of all nodes, against the plain telling.
func TestEachFieldOfEachSampleAsEachNumber(t *testing.T) {
	for _, s := range samples() {
		x, _ := around(s.x)
		for k := range x.Nodes {
			for _, v := range numbers() {
				for i := range 4 {
					y := with(x, k, func(n *api.Node) {
						n.N = []int64{v, n.N, n.N, n.N}[i]
						n.A, n.B, n.C = []int{n.A, int(v), n.A, n.A}[i], []int{n.B, n.B, int(v), n.B}[i], []int{n.C, n.C, n.C, int(v)}[i]
					})
					if ast.Good(y) != plainGood(y) {
						t.Errorf("Good(%v) = %t", y, ast.Good(y))
					}
				}
			}
		}
	}
}

// P15.2

// counted expects that there is one node more than children, and the datatypes.
func counted(t *testing.T, x api.Tree) {
	t.Helper()
	all := map[int]bool{}
	n := 0
	for k := range x.Nodes {
		for _, c := range ast.Kids(x, k) {
			n++
			all[c] = true
		}
	}
	if len(x.Nodes) != n+1+len(x.Types) || len(all) != n {
		t.Errorf("%v has %d nodes, %d children, %d datatypes", x, len(x.Nodes), n, len(x.Types))
	}
	for _, k := range append([]int{x.Root}, x.Types...) {
		if all[k] {
			t.Errorf("%v: %d is a child", x, k)
		}
	}
}

func TestOneNodeMoreThanChildrenAndDatatypes(t *testing.T) {
	for _, s := range samples() {
		x, _ := around(s.x)
		counted(t, x)
	}
	r := rand.New(rand.NewSource(4))
	for range 500 {
		root, types := random(r)
		if x := tree(root, types...); len(x.Nodes) <= 500 {
			counted(t, x)
			counted(t, shuffled(r, x))
		}
	}
	counted(t, chain(1))
	counted(t, chain(500))
}

// TestWhatIsToldSharesNothing writes over one answer, its spare room too, and asks again.
func TestWhatIsToldSharesNothing(t *testing.T) {
	r := rand.New(rand.NewSource(5))
	for range 200 {
		root, types := random(r)
		x := tree(root, types...)
		if len(x.Nodes) > 500 {
			continue
		}
		was := api.Tree{Nodes: slices.Clone(x.Nodes), Types: slices.Clone(x.Types), Root: x.Root}
		for k := range x.Nodes {
			first, again := ast.Kids(x, k), ast.Kids(x, k)
			want := slices.Clone(again)
			for i := range first[:cap(first)] {
				first[:cap(first)][i] = -99
			}
			if !slices.Equal(again, want) || !slices.Equal(ast.Kids(x, k), want) || !slices.Equal(want, plainKids(x.Nodes[k])) {
				t.Fatal(x, k, again, want)
			}
		}
		if !slices.Equal(x.Types, was.Types) || !reflect.DeepEqual(x.Nodes, was.Nodes) {
			t.Fatal(x, was)
		}
	}
}
