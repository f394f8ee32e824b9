package data_test

import (
	"math/rand"

	"stockpot/api"
	"stockpot/arena"
	"stockpot/object"
	"stockpot/word"
)

// tree is a value as these tests tell it, wherever it lies: a number, a block with what it has, a text.
type tree struct {
	kind, tag int
	n         int64
	text      string
	has       []tree
}

func numberTree(n int64) tree { return tree{n: n} }

func blockTree(tag int, has ...tree) tree { return tree{kind: api.Block, tag: tag, has: has} }

func strTree(text string) tree { return tree{kind: api.Str, text: text} }

// listTree is a list as programs have it.
func listTree(items ...tree) tree {
	l := numberTree(0)
	for i := len(items) - 1; i >= 0; i-- {
		l = blockTree(1, items[i], l)
	}
	return l
}

// chainTree is a number within so many blocks of one, less one: it has so many cells.
func chainTree(cells int) tree {
	x := numberTree(int64(cells))
	for range cells - 1 {
		x = blockTree(3, x)
	}
	return x
}

// wideTree has so many cells, in blocks as great as may be, each of them the first that another one has: all that it has besides is still to be told when its own are.
func wideTree(cells int) tree {
	if cells == 1 {
		return strTree("w")
	}
	has := []tree{strTree("first")}
	if cells-1 > api.MaxSize {
		has[0] = wideTree(cells - api.MaxSize)
	}
	for len(has) < min(cells-1, api.MaxSize) {
		has = append(has, numberTree(int64(cells)))
	}
	return blockTree(len(has), has...)
}

// message is the tree's cells.
func (x tree) message() api.Message {
	switch x.kind {
	case api.Block:
		m := api.Message{{Kind: api.Block, Tag: x.tag, N: int64(len(x.has))}}
		for _, y := range x.has {
			m = append(m, y.message()...)
		}
		return m
	case api.Str:
		return api.Message{{Kind: api.Str, Text: x.text}}
	}
	return api.Message{{N: x.n}}
}

// words is the words of the tree's objects, the first of which is at that place, and the tree's own word.
func (x tree) words(place int) ([]uint64, uint64) {
	switch x.kind {
	case api.Block:
		l := make([]uint64, 1+len(x.has))
		l[0] = 1 + 256*uint64(x.tag) + 1<<32*uint64(len(x.has))
		for i, y := range x.has {
			behind, w := y.words(place + len(l))
			l[1+i] = w
			l = append(l, behind...)
		}
		return l, uint64(2 * place)
	case api.Str:
		l := []uint64{2 + 1<<32*uint64(len(x.text))}
		for i := range len(x.text) {
			if i%8 == 0 {
				l = append(l, 0)
			}
			l[len(l)-1] += uint64(x.text[i]) << (8 * (i % 8))
		}
		return l, uint64(2 * place)
	}
	return nil, uint64(2*x.n + 1)
}

// plainTree is the tree of a message that may be; false, if it may not be.
func plainTree(m api.Message) (tree, bool) {
	if len(m) < 1 || len(m) > 100 {
		return tree{}, false
	}
	x, rest, ok := plainWhole(m)
	return x, ok && len(rest) == 0
}

// plainWhole is the whole with which the cells begin, and the cells behind it.
func plainWhole(m api.Message) (tree, api.Message, bool) {
	if len(m) == 0 {
		return tree{}, nil, false
	}
	c, rest := m[0], m[1:]
	switch {
	case c.Kind == 0 && c.Tag == 0 && c.Text == "" && c.N >= -4611686018427387904 && c.N <= 4611686018427387903:
		return numberTree(c.N), rest, true
	case c.Kind == 2 && c.Tag == 0 && c.N == 0 && len(c.Text) <= 400:
		return strTree(c.Text), rest, true
	case c.Kind == 1 && c.Tag >= 0 && c.Tag <= 255 && c.Text == "" && c.N >= 1 && c.N <= 8:
		x := blockTree(c.Tag)
		for range c.N {
			y, behind, ok := plainWhole(rest)
			if !ok {
				return tree{}, nil, false
			}
			x.has, rest = append(x.has, y), behind
		}
		return x, rest, true
	}
	return tree{}, nil, false
}

// plainOut is the message of a value in a heap that may be; false, if it can't be sent, or has too many cells.
func plainOut(a *arena.Arena, h api.Heap, w uint64) (api.Message, bool) {
	var m api.Message
	var tell func(w uint64) bool
	tell = func(w uint64) bool {
		if len(m) == 100 {
			return false
		}
		if w%2 == 1 {
			m = append(m, api.Cell{N: int64(w) >> 1})
			return true
		}
		o, ok := object.Get(a, h, w)
		switch {
		case ok && o.Kind == 2:
			m = append(m, api.Cell{Kind: 2, Text: o.Text})
			return true
		case ok && o.Kind == 1:
			m = append(m, api.Cell{Kind: 1, Tag: o.Tag, N: int64(len(o.Fields))})
			for _, v := range o.Fields {
				if !tell(v) {
					return false
				}
			}
			return true
		}
		return false
	}
	if !tell(w) {
		return nil, false
	}
	return m, true
}

// plainFits says whether the tree fits form k of forms that may be.
func plainFits(f []api.Form, k int, x tree) bool {
	form := f[k]
	is := func(tag, has int) bool { return x.kind == 1 && x.tag == tag && len(x.has) == has }
	number := x.kind == 0
	switch form.Kind {
	case 1:
		return number
	case 2:
		return number && (x.n == 0 || x.n == 1)
	case 3:
		return number && x.n == 0
	case 4:
		return x.kind == 2
	case 5:
		return is(0, 2) && plainFits(f, form.A, x.has[0]) && plainFits(f, form.B, x.has[1])
	case 6:
		return number && x.n == 0 || is(1, 2) && plainFits(f, form.A, x.has[0]) && plainFits(f, k, x.has[1])
	}
	for i, c := range form.Cons {
		if c == -1 && number && x.n == int64(i) || c != -1 && is(i, 1) && plainFits(f, c, x.has[0]) {
			return true
		}
	}
	return false
}

// someTree is a tree with at most so many cells.
func someTree(r *rand.Rand, cells int) tree {
	switch r.Intn(4) {
	case 0:
		return numberTree(word.Wrap(int64(r.Uint64())) >> r.Intn(63))
	case 1:
		return strTree(someText(r))
	}
	if cells < 2 {
		return numberTree(int64(r.Intn(3)))
	}
	n := 1 + r.Intn(min(api.MaxSize, cells-1))
	x := blockTree(r.Intn(api.MaxTag+1), make([]tree, n)...)
	for i := range x.has {
		x.has[i] = someTree(r, (cells-1)/n)
	}
	return x
}

// someText is a text of any bytes, noughts among them.
func someText(r *rand.Rand) string {
	b := make([]byte, r.Intn(20))
	for i := range b {
		b[i] = byte(r.Intn(256) * r.Intn(2))
	}
	return string(b)
}

// someForms are forms that may be, each of any kind, of any others or itself.
func someForms(r *rand.Rand) []api.Form {
	f := make([]api.Form, 1+r.Intn(6))
	for i := range f {
		switch k := 1 + r.Intn(7); k {
		case api.FPair:
			f[i] = api.Form{Kind: k, A: r.Intn(len(f)), B: r.Intn(len(f))}
		case api.FList:
			f[i] = api.Form{Kind: k, A: r.Intn(len(f))}
		case api.FData:
			f[i] = api.Form{Kind: k, Cons: make([]int, 1+r.Intn(4))}
			for j := range f[i].Cons {
				f[i].Cons[j] = r.Intn(len(f)+1) - 1
			}
		default:
			f[i] = api.Form{Kind: k}
		}
	}
	return f
}

// fitting is a tree that fits form k, as far as there is one so deep; else it may be one that does not.
func fitting(r *rand.Rand, f []api.Form, k, deep int) tree {
	form := f[k]
	if deep == 0 {
		return numberTree(0)
	}
	switch form.Kind {
	case api.FInt:
		return numberTree(int64(r.Intn(9) - 4))
	case api.FBool:
		return numberTree(int64(r.Intn(2)))
	case api.FStr:
		return strTree(someText(r))
	case api.FPair:
		return blockTree(0, fitting(r, f, form.A, deep-1), fitting(r, f, form.B, deep-1))
	case api.FList:
		if r.Intn(3) > 0 {
			return blockTree(1, fitting(r, f, form.A, deep-1), fitting(r, f, k, deep-1))
		}
	case api.FData:
		i := r.Intn(len(form.Cons))
		if form.Cons[i] == -1 {
			return numberTree(int64(i))
		}
		return blockTree(i, fitting(r, f, form.Cons[i], deep-1))
	}
	return numberTree(0)
}
