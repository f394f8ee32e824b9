package data_test

import (
	"math"
	"math/rand"
	"slices"
	"testing"

	"stockpot/api"
	"stockpot/arena"
	"stockpot/data"
	"stockpot/object"
	"stockpot/word"
)

// P10.1: Out

// stocked is a heap with objects of each kind, and their places' words; blocks and texts can be sent.
func stocked(t *testing.T, half, space int) (*arena.Arena, api.Heap, map[uint64]api.Message) {
	t.Helper()
	a, h := made(t, half, space)
	s := put(t, a, &h, api.Object{Kind: api.Str, Text: "pepper and salt"})
	put(t, a, &h, api.Object{Kind: api.Array, Fields: []uint64{word.Int(4), s}})
	b := put(t, a, &h, blockOf(9, word.Int(-4), s, word.Int(most)))
	put(t, a, &h, api.Object{Kind: api.Closure, Tag: 3, Fields: []uint64{b}})
	c := put(t, a, &h, blockOf(api.MaxTag, b, word.Int(least)))
	e := put(t, a, &h, api.Object{Kind: api.Str})
	put(t, a, &h, api.Object{Kind: api.Array})
	first := api.Message{block(9, 3), num(-4), str("pepper and salt"), num(most)}
	return a, h, map[uint64]api.Message{
		s: {str("pepper and salt")},
		b: first,
		c: append(append(api.Message{block(api.MaxTag, 2)}, first...), num(least)),
		e: {str("")},
	}
}

func TestOutOfEachWord(t *testing.T) {
	for _, space := range []int{0, 1} {
		a, h, values := stocked(t, 40, space)
		told := 0
		for place := range 2*h.Half + 2*ahead + 5 {
			w := word.Place(place)
			if m, ok := values[w]; ok {
				out(t, a, h, w, m)
				told++
			} else {
				noOut(t, a, h, w)
			}
		}
		if told != len(values) {
			t.Errorf("%d values were told", told)
		}
		top := space*h.Half + h.Top
		for _, place := range []int{top - 1, top, top + 1, h.Half, 2*h.Half - 1, 2 * h.Half, 1 << 20, 1<<31 - 1, 1<<32 - 1} {
			if _, ok := values[word.Place(place)]; !ok {
				noOut(t, a, h, word.Place(place))
			}
		}
		for w, m := range values {
			out(t, a, h, w, m)
			// what would be the same place, were only some bits taken
			for _, shift := range []int{12, 16, 31, 32, 33, 48, 63} {
				noOut(t, a, h, w+1<<shift)
			}
		}
	}
}

func TestOutOfNumbers(t *testing.T) {
	a, h := made(t, 8, 0)
	b, full, _ := stocked(t, 17, 1)
	if full.Top != full.Half {
		t.Fatalf("%v has room", full)
	}
	for _, n := range []int64{least, least + 1, -1 << 32, -1, 0, 1, 2, 7, 1 << 32, most - 1, most} {
		out(t, a, h, word.Int(n), api.Message{num(n)})
		out(t, b, full, word.Int(n), api.Message{num(n)})
	}
	out(t, a, h, math.MaxUint64, api.Message{num(-1)})
	for _, w := range []uint64{0, 2, 16, 1 << 32, 1 << 33, 1 << 60, 1 << 63, math.MaxUint64 - 1} {
		noOut(t, a, h, w)
	}
}

func TestOutOfWhatCanNotBeSent(t *testing.T) {
	for _, o := range []api.Object{
		{Kind: api.Array}, {Kind: api.Array, Fields: []uint64{1}}, {Kind: api.Array, Fields: []uint64{1, 3}},
		{Kind: api.Closure}, {Kind: api.Closure, Tag: 5}, {Kind: api.Closure, Tag: 5, Fields: []uint64{1}},
	} {
		a, h := made(t, 500, 1)
		none := put(t, a, &h, o)
		noOut(t, a, h, none)
		s := put(t, a, &h, api.Object{Kind: api.Str, Text: "fine"})
		for size := 1; size <= api.MaxSize; size++ {
			fields := slices.Repeat([]uint64{s}, size)
			b := put(t, a, &h, blockOf(1, fields...))
			out(t, a, h, b, append(api.Message{block(1, int64(size))}, slices.Repeat(api.Message{str("fine")}, size)...))
			for i := range size {
				set(t, a, h, b, i, none)
				noOut(t, a, h, b)
				set(t, a, h, b, i, word.Int(1))
			}
		}
		deep, fine := none, s
		for range 30 {
			deep = put(t, a, &h, blockOf(0, word.Int(1), deep, s))
			noOut(t, a, h, deep)
			fine = put(t, a, &h, blockOf(0, word.Int(1), fine))
			m, _ := plainOut(a, h, fine)
			out(t, a, h, fine, m)
		}
	}
}

func TestOutOfWhatIsPointedToTwice(t *testing.T) {
	a, h := made(t, 100, 0)
	s := put(t, a, &h, api.Object{Kind: api.Str, Text: "x"})
	two := put(t, a, &h, blockOf(2, s, s))
	out(t, a, h, two, api.Message{block(2, 2), str("x"), str("x")})
	three := put(t, a, &h, blockOf(3, two, s, two))
	out(t, a, h, three, api.Message{block(3, 3), block(2, 2), str("x"), str("x"), str("x"), block(2, 2), str("x"), str("x")})
	// each block has the one ahead of it twice: 2, 4, 8 .. times the text
	both := s
	for deep := range 25 {
		m, ok := plainOut(a, h, both)
		if ok != (deep <= 5) {
			t.Fatalf("%d deep: %t", deep, ok)
		}
		if ok {
			out(t, a, h, both, m)
		} else {
			noOut(t, a, h, both)
		}
		both = put(t, a, &h, blockOf(0, both, both))
	}
}

func TestOutOfRings(t *testing.T) {
	a, h := made(t, 200, 0)
	for size := 1; size <= api.MaxSize; size++ {
		for i := range size {
			b := put(t, a, &h, blockOf(1, slices.Repeat([]uint64{1}, size)...))
			set(t, a, h, b, i, b)
			noOut(t, a, h, b)
			if h.Top > 150 {
				h.Top = 0
			}
		}
	}
	all, g := made(t, 200, 1)
	b := put(t, all, &g, blockOf(1, slices.Repeat([]uint64{1}, api.MaxSize)...))
	for i := range api.MaxSize {
		set(t, all, g, b, i, b)
		noOut(t, all, g, b)
	}
	for n := 2; n <= 60; n++ {
		a, h := made(t, 200, 0)
		first := put(t, a, &h, blockOf(1, word.Int(1), word.Int(2)))
		last := first
		for range n - 1 {
			last = put(t, a, &h, blockOf(1, word.Int(1), last))
		}
		set(t, a, h, first, 1, last)
		for place := 0; place < h.Top; place += 3 {
			noOut(t, a, h, word.Place(place))
		}
		out(t, a, h, put(t, a, &h, blockOf(1, 1)), api.Message{block(1, 1), num(0)})
		noOut(t, a, h, put(t, a, &h, blockOf(1, 1, last)))
		set(t, a, h, first, 1, 1)
		if 2*n+1 <= api.MaxCells {
			out(t, a, h, last, listTree(slices.Repeat([]tree{numberTree(1)}, n)...).message())
		} else {
			noOut(t, a, h, last)
		}
	}
}

func TestOutOfHowManyCells(t *testing.T) {
	for cells := 1; cells <= 120; cells++ {
		for _, x := range []tree{chainTree(cells), wideTree(cells), blockTree(0, wideTree(cells), numberTree(1)), blockTree(0, numberTree(1), chainTree(cells))} {
			a, h := made(t, 1000, 1)
			w := putTree(t, a, &h, x)
			if m := x.message(); len(m) <= api.MaxCells {
				out(t, a, h, w, m)
			} else {
				noOut(t, a, h, w)
			}
		}
	}
	// a list in a list's head, again and again: all rests are still to be told when the innermost one is
	x := numberTree(0)
	for cells := 1; cells <= 120; cells += 2 {
		a, h := made(t, 1000, 0)
		w := putTree(t, a, &h, x)
		if cells <= api.MaxCells {
			out(t, a, h, w, x.message())
		} else {
			noOut(t, a, h, w)
		}
		x = listTree(x)
	}
}

func TestOutIsNewMemory(t *testing.T) {
	a, h, values := stocked(t, 40, 0)
	for w, want := range values {
		m, _ := data.Out(a, h, w)
		n, _ := data.Out(a, h, w)
		whole := slices.Clone(n[:cap(n)])
		m = m[:cap(m)]
		for i := range m {
			m[i] = spare
		}
		if !slices.Equal(n[:cap(n)], whole) {
			t.Errorf("two answers share memory: %v, it was %v", n[:cap(n)], whole)
		}
		out(t, a, h, w, want)
	}
}

// wrongHeaps calls one with heaps that may not be, of an arena where h is one that may.
func wrongHeaps(a *arena.Arena, h api.Heap, one func(a *arena.Arena, h api.Heap)) {
	one(nil, h)
	one(nil, api.Heap{})
	one(&arena.Arena{}, h)
	one(a, api.Heap{})
	for _, n := range []int{-1, 0, 1, 2, 4, 2*h.Half + ahead, 1 << 40, math.MaxInt, math.MinInt} {
		w := h
		w.Base = n
		one(a, w)
	}
	for _, n := range []int{-1, 0, 1, h.Half - 1, h.Half + 1, 2 * h.Half, 1 << 40, math.MaxInt, math.MinInt} {
		w := h
		w.Half = n
		one(a, w)
	}
	for _, n := range []int{-1, 2, 3, 256, math.MaxInt, math.MinInt} {
		w := h
		w.Space = n
		one(a, w)
	}
	for _, n := range []int{-1, h.Top - 1, h.Half + 1, 1 << 40, math.MaxInt, math.MinInt} {
		w := h
		w.Top = n
		one(a, w)
	}
	place := h.Space * h.Half
	for _, x := range []struct {
		at int
		w  uint64
	}{
		{0, 0}, {0, api.Moved}, {0, 1 << 32}, {0, api.Str | 9<<32}, {1, 1 << 24}, {2, api.Block | 3<<32}, {2, api.Block | 1<<32},
		{3, word.Place(place + 1)}, {4, word.Place(place + 3)}, {4, word.Place(place + 5)}, {4, word.Place(2 * h.Half)}, {4, word.Place(h.Half - place)}, {4, 1 << 33}, {4, 1 << 63},
	} {
		was, _ := a.Get(h.Base, place+x.at)
		a.Set(h.Base, place+x.at, x.w)
		one(a, h)
		a.Set(h.Base, place+x.at, was)
	}
}

// ready is a heap of 16 words a semispace, with a text and a block.
func ready(t *testing.T, space int) (*arena.Arena, api.Heap) {
	t.Helper()
	a, h := made(t, 16, space)
	put(t, a, &h, api.Object{Kind: api.Str, Text: "abc"})
	put(t, a, &h, blockOf(1, word.Int(5), word.Int(6)))
	return a, h
}

func TestOutOfHeapsThatMayNotBe(t *testing.T) {
	for _, space := range []int{0, 1} {
		a, h := ready(t, space)
		wrongHeaps(a, h, func(a *arena.Arena, h api.Heap) {
			for _, w := range []uint64{0, 1, 3, word.Place(16), word.Place(2), word.Place(18), math.MaxUint64} {
				noOut(t, a, h, w)
			}
		})
		out(t, a, h, 1, api.Message{num(0)})
		out(t, a, h, word.Place(16*space), api.Message{str("abc")})
		out(t, a, h, word.Place(16*space+2), api.Message{block(1, 2), num(5), num(6)})
	}
}

func TestOutOfAnyHeap(t *testing.T) {
	r := rand.New(rand.NewSource(2))
	sent := 0
	for range 400 {
		a, h := made(t, 100, r.Intn(2))
		words := []uint64{1, 3}
		for range 12 {
			o := api.Object{Kind: api.Block, Tag: r.Intn(3), Fields: make([]uint64, 1+r.Intn(3))}
			switch r.Intn(10) {
			case 0:
				o = api.Object{Kind: api.Array, Fields: o.Fields}
			case 1, 2, 3:
				o = api.Object{Kind: api.Str, Text: someText(r)}
			}
			for i := range o.Fields {
				o.Fields[i] = words[r.Intn(len(words))]
			}
			words = append(words, put(t, a, &h, o))
		}
		// some fields point to objects behind their own
		for range r.Intn(4) {
			object.Set(a, h, words[r.Intn(len(words))], r.Intn(2), words[r.Intn(len(words))])
		}
		for _, w := range words {
			m, ok := plainOut(a, h, w)
			if !ok {
				noOut(t, a, h, w)
				continue
			}
			sent++
			out(t, a, h, w, m)
			good(t, m, data.Words(m))
		}
	}
	if sent < 2000 {
		t.Errorf("only %d could be sent", sent)
	}
}
