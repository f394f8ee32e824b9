package data_test

import (
	"math"
	"math/rand"
	"slices"
	"strings"
	"testing"

	"stockpot/api"
	"stockpot/arena"
	"stockpot/data"
	"stockpot/object"
	"stockpot/word"
)

const (
	least = -1 << 62
	most  = 1<<62 - 1
)

// ahead is how many words of the arena lie in another region ahead of the heap's; so many lie in one behind it.
const ahead = 3

// litter is what the words hold that no object takes: it looks like the head of a block.
const litter = 0x1_0000_0001

// made is an arena with a heap that has no objects, its words full of litter, a region on either side of it.
func made(t *testing.T, half, space int) (*arena.Arena, api.Heap) {
	t.Helper()
	a, ok := arena.New(2*half + 2*ahead)
	if !ok {
		t.Fatalf("no arena for two times %d words", half)
	}
	for _, n := range []int{ahead, 2 * half, ahead} {
		base, ok := a.Cut(n)
		if !ok {
			t.Fatalf("no region of %d words", n)
		}
		for at := range n {
			a.Set(base, at, litter)
		}
	}
	return a, api.Heap{Base: ahead, Half: half, Space: space}
}

// put lays the object in the heap.
func put(t *testing.T, a *arena.Arena, h *api.Heap, o api.Object) uint64 {
	t.Helper()
	n, w, ok := object.Put(a, *h, o)
	if !ok {
		t.Fatalf("Put(%v, %v): false", *h, o)
	}
	*h = n
	return w
}

// set makes v field i of the object at w.
func set(t *testing.T, a *arena.Arena, h api.Heap, w uint64, i int, v uint64) {
	t.Helper()
	if !object.Set(a, h, w, i, v) {
		t.Fatalf("Set(%v, %#x, %d, %#x): false", h, w, i, v)
	}
}

// putTree lays a tree in the heap, what it has ahead of itself, other than In does.
func putTree(t *testing.T, a *arena.Arena, h *api.Heap, x tree) uint64 {
	t.Helper()
	switch x.kind {
	case api.Block:
		var fields []uint64
		for _, y := range x.has {
			fields = append(fields, putTree(t, a, h, y))
		}
		return put(t, a, h, api.Object{Kind: api.Block, Tag: x.tag, Fields: fields})
	case api.Str:
		return put(t, a, h, api.Object{Kind: api.Str, Text: x.text})
	}
	return word.Int(x.n)
}

func blockOf(tag int, fields ...uint64) api.Object {
	return api.Object{Kind: api.Block, Tag: tag, Fields: fields}
}

// everything is the words of each region of the arena; the heap's is the second one.
func everything(a *arena.Arena) [][]uint64 {
	var whole [][]uint64
	for _, r := range a.Regions() {
		l, _ := a.Words(r[0])
		whole = append(whole, l)
	}
	return whole
}

// unchanged expects that the arena's regions hold what they held before.
func unchanged(t *testing.T, a *arena.Arena, before [][]uint64) {
	t.Helper()
	if now := everything(a); !slices.EqualFunc(now, before, slices.Equal) {
		t.Errorf("the arena holds %#x, and held %#x", now, before)
	}
}

func num(n int64) api.Cell { return api.Cell{N: n} }

func block(tag int, n int64) api.Cell { return api.Cell{Kind: api.Block, Tag: tag, N: n} }

func str(text string) api.Cell { return api.Cell{Kind: api.Str, Text: text} }

// spare stands behind a message that is handed in, in its spare room.
var spare = api.Cell{Kind: 77, Tag: 77, N: 77, Text: "spare"}

// handed is the message with a cell in its spare room.
func handed(m api.Message) api.Message { return append(slices.Clone(m), spare)[:len(m)] }

// kept expects of a message that was handed in that it is as it was.
func kept(t *testing.T, given, m api.Message) {
	t.Helper()
	if !slices.Equal(given, m) || given[:len(m)+1][len(m)] != spare {
		t.Errorf("the message %v is now %v, %v", m, given, given[:len(m)+1][len(m)])
	}
}

// good expects that the message may be, and that its objects take so many words.
func good(t *testing.T, m api.Message, words int) {
	t.Helper()
	given := handed(m)
	if !data.Good(given) {
		t.Errorf("Good(%v): false", m)
	}
	if n := data.Words(given); n != words {
		t.Errorf("Words(%v) = %d, want %d", m, n, words)
	}
	kept(t, given, m)
}

// bad expects that the message may not be, whatever is asked of it.
func bad(t *testing.T, m api.Message) {
	t.Helper()
	given := handed(m)
	if data.Good(given) {
		t.Errorf("Good(%v): true", m)
	}
	if n := data.Words(given); n != 0 {
		t.Errorf("Words(%v) = %d, want 0", m, n)
	}
	for k := range everyForm() {
		if data.Fits(everyForm(), k, given) {
			t.Errorf("Fits(form %d, %v): true", k, m)
		}
	}
	a, h := made(t, roomFor(m), 0)
	noIn(t, a, h, given)
	kept(t, given, m)
}

// roomFor is a semispace's words in which there is room for the cells, whatever they are.
func roomFor(m api.Message) int {
	n := api.MinHalf
	for _, c := range m {
		n += 1 + api.MaxSize + len(c.Text)/8
	}
	return min(n, api.MaxHalf)
}

// out expects that the value's message is told, and that nothing changes.
func out(t *testing.T, a *arena.Arena, h api.Heap, w uint64, want api.Message) {
	t.Helper()
	before := everything(a)
	if m, ok := data.Out(a, h, w); !ok || !slices.Equal(m, want) {
		t.Errorf("Out(%v, %#x) = %v, %t, want %v", h, w, m, ok, want)
	}
	unchanged(t, a, before)
}

// noOut expects that no message is told, and that nothing changes.
func noOut(t *testing.T, a *arena.Arena, h api.Heap, w uint64) {
	t.Helper()
	before := everything(a)
	if m, ok := data.Out(a, h, w); ok || len(m) != 0 {
		t.Errorf("Out(%v, %#x) = %v, %t, want none", h, w, m, ok)
	}
	unchanged(t, a, before)
}

// in expects that the message's objects are laid as its tree tells, and that nothing else changes.
func in(t *testing.T, a *arena.Arena, h *api.Heap, m api.Message) uint64 {
	t.Helper()
	x, ok := plainTree(m)
	if !ok {
		t.Fatalf("%v may not be", m)
	}
	want := everything(a)
	first := h.Space*h.Half + h.Top
	laid, wantWord := x.words(first)
	copy(want[1][first:], laid)
	wantHeap := *h
	wantHeap.Top += len(laid)
	given := handed(m)
	n, w, ok := data.In(a, *h, given)
	if !ok || n != wantHeap || w != wantWord {
		t.Fatalf("In(%v, %v) = %v, %#x, %t, want %v, %#x", *h, m, n, w, ok, wantHeap, wantWord)
	}
	unchanged(t, a, want)
	kept(t, given, m)
	*h = n
	return w
}

// noIn expects that no message is laid, and that nothing changes.
func noIn(t *testing.T, a *arena.Arena, h api.Heap, m api.Message) {
	t.Helper()
	before := everything(a)
	if n, w, ok := data.In(a, h, m); ok || n != (api.Heap{}) || w != 0 {
		t.Errorf("In(%v, %v) = %v, %#x, %t, want none", h, m, n, w, ok)
	}
	unchanged(t, a, before)
}

// theList is the chapter's example: the list of 1.
func theList() api.Message { return api.Message{block(1, 2), num(1), num(0)} }

// everyForm is a form of each kind; lists, pairs and data hold themselves among others.
func everyForm() []api.Form {
	return []api.Form{
		{Kind: api.FInt}, {Kind: api.FBool}, {Kind: api.FUnit}, {Kind: api.FStr},
		{Kind: api.FPair, A: 0, B: 3},
		{Kind: api.FList, A: 4},
		{Kind: api.FData, Cons: []int{-1, 6, 5, -1, 0}},
		{Kind: api.FList, A: 7},
		{Kind: api.FPair, A: 8, B: 8},
		{Kind: api.FPair, A: 10, B: 10},
		{Kind: api.FData, Cons: []int{-1, 9}},
		{Kind: api.FList, A: 0},
	}
}

func TestTheListOfOne(t *testing.T) {
	good(t, theList(), 3)
	for _, space := range []int{0, 1} {
		a, h := made(t, 8, space)
		w := in(t, a, &h, theList())
		place := space * 8
		if h.Top != 3 || w != word.Place(place) {
			t.Errorf("the list lies at %#x, up to %d", w, h.Top)
		}
		for i, want := range []uint64{0x2_0000_0101, 3, 1} {
			if l, _ := a.Get(h.Base, place+i); l != want {
				t.Errorf("its word %d is %#x, want %#x", i, l, want)
			}
		}
		out(t, a, h, w, theList())
	}
	if !data.Fits(everyForm(), 11, theList()) {
		t.Error("it is no list of numbers")
	}
}

// P10.1: Good, Words

func TestGoodAndWords(t *testing.T) {
	for _, x := range []struct {
		m     api.Message
		words int
	}{
		{api.Message{num(0)}, 0},
		{api.Message{num(-5)}, 0},
		{api.Message{str("")}, 1},
		{api.Message{str("a")}, 2},
		{api.Message{str("12345678")}, 2},
		{api.Message{str("123456789")}, 3},
		{api.Message{str("\xff\x00\xfe")}, 2},
		{api.Message{block(0, 1), num(7)}, 2},
		{api.Message{block(0, 2), num(7), str("salt")}, 5},
		{api.Message{block(0, 2), str("salt"), num(7)}, 5},
		{api.Message{block(0, 2), block(1, 1), num(1), block(2, 1), str("")}, 8},
		{api.Message{block(0, 1), block(1, 1), block(2, 2), num(1), num(2)}, 7},
		{api.Message{block(255, 3), num(1), block(254, 2), str("a"), str(""), num(2)}, 10},
	} {
		good(t, x.m, x.words)
	}
}

func TestHowManyCells(t *testing.T) {
	bad(t, nil)
	bad(t, api.Message{})
	for cells := 1; cells <= api.MaxCells; cells++ {
		good(t, chainTree(cells).message(), 2*(cells-1))
		m := wideTree(cells).message()
		if len(m) != cells {
			t.Fatalf("%d cells are %v", cells, m)
		}
		l, _ := wideTree(cells).words(0)
		good(t, m, len(l))
	}
	for _, cells := range []int{api.MaxCells + 1, api.MaxCells + 2, 2 * api.MaxCells, 257, 70000} {
		bad(t, append(slices.Repeat(api.Message{block(3, 1)}, cells-1), num(1)))
		bad(t, wideTree(min(cells, 500)).message())
		bad(t, slices.Repeat(api.Message{num(1)}, cells))
	}
	long := listTree(slices.Repeat([]tree{numberTree(1)}, 49)...).message()
	good(t, long, 3*49)
	bad(t, append(api.Message{block(1, 2), num(1)}, long...))
	good(t, append(api.Message{block(1, 1)}, long...), 3*49+2)
}

func TestTooFewAndTooMany(t *testing.T) {
	r := rand.New(rand.NewSource(1))
	for range 100 {
		m := someTree(r, 20).message()
		for n := range m {
			bad(t, m[:n])
		}
		for _, c := range []api.Cell{num(0), str(""), block(0, 1)} {
			bad(t, append(slices.Clone(m), c))
		}
		bad(t, append(slices.Clone(m), m...))
		// one cell less, or more, where it is not the last one
		bad(t, append(api.Message{block(0, 2)}, m...))
		bad(t, append(append(api.Message{block(0, 1)}, m...), m...))
	}
	for n := int64(1); n <= api.MaxSize; n++ {
		for k := range int64(api.MaxSize + 2) {
			m := append(api.Message{block(0, n)}, slices.Repeat(api.Message{num(1)}, int(k))...)
			if k == n {
				good(t, m, int(1+n))
			} else {
				bad(t, m)
			}
		}
	}
}

// each calls one with the cell as a whole, and within blocks.
func each(c api.Cell, one func(m api.Message)) {
	one(api.Message{c})
	one(api.Message{block(0, 1), c})
	one(api.Message{block(0, 3), num(1), c, num(2)})
	one(api.Message{block(0, 2), block(0, 1), num(1), c})
}

// alone is how many words what stands around the cell takes in each of what each calls with.
var alone = []int{0, 2, 4, 5}

// goodEach expects that the cell may be, as a whole and within blocks, and takes so many words.
func goodEach(t *testing.T, c api.Cell, words int) {
	t.Helper()
	i := 0
	each(c, func(m api.Message) { good(t, m, alone[i]+words); i++ })
}

// badEach expects that the cell may not be, as a whole and within blocks.
func badEach(t *testing.T, c api.Cell) {
	t.Helper()
	each(c, func(m api.Message) { bad(t, m) })
}

func TestNumbersOfCells(t *testing.T) {
	for _, n := range []int64{least, least + 1, -1 << 61, -257, -1, 0, 1, 256, 1 << 32, 1 << 61, most - 1, most} {
		goodEach(t, num(n), 0)
	}
	for _, n := range []int64{least - 1, most + 1, math.MinInt64, math.MinInt64 + 1, math.MaxInt64, math.MaxInt64 - 1, 3 << 61, -3 << 61} {
		badEach(t, num(n))
	}
}

func TestTags(t *testing.T) {
	for _, tag := range []int{0, 1, 2, 128, api.MaxTag - 1, api.MaxTag} {
		good(t, api.Message{block(tag, 1), num(1)}, 2)
		good(t, api.Message{block(tag, 2), block(tag, 1), num(1), str("")}, 6)
	}
	for _, tag := range []int{-1, -2, -256, api.MaxTag + 1, api.MaxTag + 2, 512, 1 << 16, 1 << 32, 1<<32 + 1, math.MaxInt, math.MinInt} {
		bad(t, api.Message{block(tag, 1), num(1)})
		bad(t, api.Message{block(0, 2), block(tag, 1), num(1), str("")})
	}
}

func TestSizesOfBlocks(t *testing.T) {
	for n := int64(1); n <= api.MaxSize; n++ {
		good(t, append(api.Message{block(1, n)}, slices.Repeat(api.Message{str("")}, int(n))...), int(1+2*n))
	}
	for _, n := range []int64{0, -1, -8, api.MaxSize + 1, api.MaxSize + 2, 99, 257, 1 << 32, 1<<32 + 1, 1<<62 + 1, math.MaxInt64, math.MinInt64, math.MinInt64 + 1} {
		for k := range int64(api.MaxSize + 3) {
			bad(t, append(api.Message{block(1, n)}, slices.Repeat(api.Message{num(1)}, int(k))...))
		}
	}
	// fewer than none make no room for those of another one
	bad(t, api.Message{block(0, 3), num(1), num(2), block(0, -1), num(3)})
	bad(t, api.Message{block(0, 2), block(0, 0), num(1)})
	bad(t, append(api.Message{block(0, 99)}, slices.Repeat(api.Message{num(1)}, 99)...))
}

func TestLengthsOfTexts(t *testing.T) {
	for _, n := range []int{0, 1, 7, 8, 9, 60, 61, 255, 256, 257, api.MaxBytes - 1, api.MaxBytes} {
		goodEach(t, str(strings.Repeat("\x00", n)), 1+(n+7)/8)
	}
	for _, n := range []int{api.MaxBytes + 1, api.MaxBytes + 8, 512, 1 << 16, 1<<16 + 1} {
		badEach(t, str(strings.Repeat("x", n)))
	}
	good(t, append(api.Message{block(0, 8)}, slices.Repeat(api.Message{str(strings.Repeat("x", api.MaxBytes))}, 8)...), 9+8*51)
}

func TestKinds(t *testing.T) {
	kinds := []int{math.MinInt, math.MinInt + 1, math.MinInt + 2, math.MaxInt, 1 << 8, 1<<8 + 1, 1<<8 + 2, 1 << 16, 1<<16 + 1, 1<<16 + 2, 1 << 32, 1<<32 + 1, 1<<32 + 2, -256, -255, -254}
	for kind := -10; kind <= 255; kind++ {
		if kind != 0 && kind != api.Block && kind != api.Str {
			kinds = append(kinds, kind)
		}
	}
	for _, kind := range kinds {
		badEach(t, api.Cell{Kind: kind})
		badEach(t, api.Cell{Kind: kind, N: 1})
		badEach(t, api.Cell{Kind: kind, Text: "a"})
		bad(t, api.Message{{Kind: kind, N: 1}, num(1)})
		bad(t, api.Message{{Kind: kind, Tag: 1, N: 2}, num(1), num(2)})
	}
}

func TestFieldsThatMustBeZero(t *testing.T) {
	for _, v := range []int{1, -1, 255, 256, 1 << 32, math.MaxInt, math.MinInt} {
		badEach(t, api.Cell{Tag: v})
		badEach(t, api.Cell{Tag: v, N: 5})
		badEach(t, api.Cell{Kind: api.Str, Tag: v})
		badEach(t, api.Cell{Kind: api.Str, Tag: v, Text: "a"})
		badEach(t, api.Cell{Kind: api.Str, N: int64(v)})
		badEach(t, api.Cell{Kind: api.Str, N: int64(v), Text: "a"})
		bad(t, api.Message{{Kind: api.Str, N: int64(v)}, num(1)})
	}
	for _, text := range []string{"a", "\x00", " ", strings.Repeat("x", 401)} {
		badEach(t, api.Cell{Text: text})
		badEach(t, api.Cell{N: 5, Text: text})
		bad(t, api.Message{{Kind: api.Block, N: 1, Text: text}, num(1)})
		bad(t, api.Message{block(0, 1), {Kind: api.Block, Tag: 1, N: 1, Text: text}, num(1)})
	}
}

// short calls one with each message of at most so many cells out of some.
func short(most int, one func(m api.Message)) {
	cells := []api.Cell{num(0), num(1), num(3), str(""), str("a"), block(0, 1), block(1, 1), block(0, 2), block(1, 2), block(2, 3), block(0, 0), {Tag: 1}}
	var more func(m api.Message)
	more = func(m api.Message) {
		one(m)
		if len(m) < most {
			for _, c := range cells {
				more(append(m[:len(m):len(m)], c))
			}
		}
	}
	more(nil)
}

func TestEachShortMessage(t *testing.T) {
	n := 0
	short(5, func(m api.Message) {
		x, ok := plainTree(m)
		words := 0
		if ok {
			l, _ := x.words(0)
			words = len(l)
			n++
		}
		if data.Good(m) != ok || data.Words(m) != words {
			t.Errorf("Good(%v) = %t, Words = %d, want %t, %d", m, data.Good(m), data.Words(m), ok, words)
		}
	})
	if n < 1000 {
		t.Errorf("only %d of them may be", n)
	}
}
