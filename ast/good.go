package ast

import (
	"stockpot/api"
	"stockpot/lex"
)

// isGoodNode says whether node k is as its row asks; its children stand ahead of it, where all were asked already.
func isGoodNode(nodes []api.Node, k int) bool {
	n := nodes[k]
	r, ok := rowOf(n)
	if !ok || !hasGoodText(n, r[text]) || !hasGoodNumber(n.N, r[number]) {
		return false
	}
	for i, c := range [...]int{n.A, n.B, n.C} {
		if !isGoodChild(nodes[:k], c, r[childA+i]) {
			return false
		}
	}
	return true
}

// hasGoodText says whether the node's Text is what the letter asks, and its Text2 with it.
func hasGoodText(n api.Node, letter byte) bool {
	if letter == names {
		return lex.IsName(n.Text) && lex.IsName(n.Text2)
	}
	if n.Text2 != "" {
		return false
	}
	switch letter {
	case name:
		return lex.IsName(n.Text)
	case taken:
		return n.Text == "_" || lex.IsName(n.Text)
	case conName:
		return lex.IsCon(n.Text)
	case quoted:
		_, ok := lex.Quote(n.Text)
		return ok
	}
	return n.Text == ""
}

// hasGoodNumber says whether n is what the letter asks of a node's N.
func hasGoodNumber(n int64, letter byte) bool {
	switch letter {
	case natural:
		return 0 <= n && n < 1<<62
	case signed:
		return -1<<62 < n && n < 1<<62
	case bit:
		return n == 0 || n == 1
	case sign:
		return isSign(n)
	case chosen:
		return true
	}
	return n == 0
}

// isSign says whether n is the Op of a sign between two expressions.
func isSign(n int64) bool {
	switch n {
	case api.OAdd, api.OSub, api.OMul, api.ODiv, api.OMod, api.OEq, api.OLess, api.OCat:
		return true
	}
	return false
}

// isGoodChild says whether c is what the letter asks of a child, which is one of the nodes ahead.
func isGoodChild(ahead []api.Node, c int, letter byte) bool {
	isSmall := 'a' <= letter && letter <= 'z'
	switch {
	case letter == zero:
		return c == 0
	case letter == absent:
		return c == -1
	case isSmall && c == -1:
		return true
	case isSmall:
		letter -= 'a' - 'A'
	}
	return 0 <= c && c < len(ahead) && isA(ahead[c], letter)
}

// hasGoodTops says whether the Root and Types are what they must be, and where.
func hasGoodTops(t api.Tree) bool {
	last := len(t.Nodes) - 1
	if t.Root != last || !isA(t.Nodes[last], expression) {
		return false
	}
	ahead := -1
	for _, k := range t.Types {
		if k <= ahead || k > last || !isA(t.Nodes[k], datatype) {
			return false
		}
		ahead = k
	}
	return true
}

// isWhole says whether each node is the child of just one, but for the tops, which are of none.
func isWhole(t api.Tree) bool {
	parents := make([]int, len(t.Nodes))
	parents[t.Root] = 1 // the tops count as if they had one
	for _, k := range t.Types {
		parents[k] = 1
	}
	for _, n := range t.Nodes {
		for _, c := range children(n) {
			if c >= 0 {
				parents[c]++
			}
		}
	}
	for _, p := range parents {
		if p != 1 {
			return false
		}
	}
	return true
}
