package step_test

import (
	"math"
	"reflect"
	"slices"
	"testing"

	"stockpot/api"
	"stockpot/arena"
	"stockpot/object"
	"stockpot/step"
	"stockpot/word"
)

// made is an instruction that makes an object: which one, by words and letters, and how many words it takes.
type made struct {
	i      api.Ins
	stack  []any
	o      api.Object
	fields []any
	words  int
}

var makers = []made{
	{api.Ins{Op: api.OStr}, nil, api.Object{Kind: api.Str}, nil, 1},
	{api.Ins{Op: api.OStr, A: 1}, nil, api.Object{Kind: api.Str, Text: "text"}, nil, 2},
	{api.Ins{Op: api.OStr, A: 2}, nil, api.Object{Kind: api.Str, Text: "a text of twenty-five byt"}, nil, 5},
	{api.Ins{Op: api.OBlock, A: 9, B: 1}, []any{'s'}, api.Object{Kind: api.Block, Tag: 9}, []any{'s'}, 2},
	{api.Ins{Op: api.OBlock, B: 3}, []any{5, 'p', 'a'}, api.Object{Kind: api.Block}, []any{5, 'p', 'a'}, 4},
	{api.Ins{Op: api.OBlock, A: api.MaxTag, B: api.MaxSize}, []any{1, 's', 'p', 'b', 'a', 'c', 'x', -1}, api.Object{Kind: api.Block, Tag: api.MaxTag}, []any{1, 's', 'p', 'b', 'a', 'c', 'x', -1}, 9},
	{api.Ins{Op: api.OClose, A: 1, B: 1}, []any{'c'}, api.Object{Kind: api.Closure, Tag: 1}, []any{'c'}, 2},
	{api.Ins{Op: api.OClose, A: 2}, nil, api.Object{Kind: api.Closure, Tag: 2}, nil, 1},
	{api.Ins{Op: api.OClose, A: 3, B: 3}, []any{'s', 4, 'b'}, api.Object{Kind: api.Closure, Tag: 3}, []any{'s', 4, 'b'}, 4},
	{api.Ins{Op: api.OArray}, []any{0, 'b'}, api.Object{Kind: api.Array}, nil, 1},
	{api.Ins{Op: api.OArray}, []any{4, 'b'}, api.Object{Kind: api.Array}, []any{'b', 'b', 'b', 'b'}, 5},
	{api.Ins{Op: api.OArray}, []any{2, -4}, api.Object{Kind: api.Array}, []any{-4, -4}, 3},
	{api.Ins{Op: api.OCat}, []any{'s', 's'}, api.Object{Kind: api.Str, Text: "abab"}, nil, 2},
	{api.Ins{Op: api.OText}, []any{-123456789}, api.Object{Kind: api.Str, Text: "-123456789"}, nil, 3},
	{api.Ins{Op: api.OText}, []any{0}, api.Object{Kind: api.Str, Text: "0"}, nil, 2},
	{api.Ins{Op: api.OText}, []any{least}, api.Object{Kind: api.Str, Text: "-4611686018427387904"}, nil, 4},
}

// bench is one at the instruction, with a word below what it takes, in whose heap so many words are left behind garbage.
func (c made) bench(t *testing.T, half, space, left int) *bench {
	t.Helper()
	x := benchOf(t, half, space, c.i, append([]any{'b'}, c.stack...)...)
	x.p.Funcs = append(x.p.Funcs, api.Func{Locals: 1, Code: []api.Ins{ret}}, api.Func{Locals: 1, Free: 3, Code: []api.Ins{ret}})
	x.garbage(t, left)
	return x
}

// garbage lays what nothing leads to till so many words are left.
func (x *bench) garbage(t *testing.T, left int) {
	t.Helper()
	for n := x.m.Heap.Half - x.m.Heap.Top - left; n > 0; n-- {
		x.put(t, api.Object{Kind: api.Array})
	}
}

// arenaAt is an arena, and a heap in it.
type arenaAt struct {
	a *arena.Arena
	h api.Heap
}

// sameValue says whether both words stand for the same, the one in the arena as it was, the other one as it is.
func sameValue(was *arenaAt, v uint64, now *arenaAt, w uint64) bool {
	if word.IsInt(v) || word.IsInt(w) {
		return v == w
	}
	o, ok := object.Get(was.a, was.h, v)
	p, is := object.Get(now.a, now.h, w)
	if !ok || !is || o.Kind != p.Kind || o.Tag != p.Tag || o.Text != p.Text || len(o.Fields) != len(p.Fields) {
		return false
	}
	for i := range o.Fields { // a bench's objects point to none behind them: this ends
		if !sameValue(was, o.Fields[i], now, p.Fields[i]) {
			return false
		}
	}
	return true
}

// makes does the instruction, and expects that it makes the object, and that all words of the stack below stand for what they did.
func (c made) makes(t *testing.T, x *bench) api.Stepped {
	t.Helper()
	was := &arenaAt{copyOf(x.a), x.m.Heap}
	z := x.one(t, c.words+1)
	if z.Used != c.words+1 || z.Short || z.M.State != api.Ready || z.M.Frames[0].PC != 1 || len(z.M.Stack) != 4 {
		t.Errorf("%v of %v comes to %v", c.i, x.m, z)
		return z
	}
	now := &arenaAt{x.a, z.M.Heap}
	if !sameValue(was, x.m.Stack[2], now, z.M.Stack[2]) {
		t.Errorf("%v of %v: below what it took stands %#x", c.i, x.m, z.M.Stack[2])
	}
	last := word.Place(z.M.Heap.Space*z.M.Heap.Half + z.M.Heap.Top - c.words)
	o, ok := object.Get(x.a, z.M.Heap, z.M.Stack[3])
	want := x.words(c.fields...)
	if !ok || z.M.Stack[3] != last || o.Kind != c.o.Kind || o.Tag != c.o.Tag || o.Text != c.o.Text || len(o.Fields) != len(want) {
		t.Fatalf("%v of %v makes %v at %#x", c.i, x.m, o, z.M.Stack[3])
	}
	for i, w := range want {
		if !sameValue(was, w, now, o.Fields[i]) {
			t.Errorf("%v of %v: field %d is %#x", c.i, x.m, i, o.Fields[i])
		}
	}
	return z
}

func TestMakesWithRoom(t *testing.T) {
	for _, c := range makers {
		for space := range 2 {
			for _, more := range []int{0, 1, 10} {
				x := c.bench(t, half, space, c.words+more)
				z := c.makes(t, x)
				if want := (api.Heap{Base: ahead, Half: half, Space: space, Top: half - more}); z.M.Heap != want {
					t.Errorf("%v of %v: the heap is %v, want %v", c.i, x.m, z.M.Heap, want)
				}
			}
		}
	}
}

func TestMakesBehindACollection(t *testing.T) {
	for _, c := range makers {
		for space := range 2 {
			for left := range c.words {
				x := c.bench(t, half, space, left)
				live := liveOf(t, x)
				z := c.makes(t, x)
				if want := (api.Heap{Base: ahead, Half: half, Space: 1 - space, Top: live + c.words}); z.M.Heap != want {
					t.Errorf("%v of %v: the heap is %v, want %v", c.i, x.m, z.M.Heap, want)
				}
				if z.M.Stack[2] == x.m.Stack[2] {
					t.Errorf("%v of %v: what is below did not move", c.i, x.m)
				}
			}
		}
	}
}

// liveOf is how many words the objects take to which the machine leads, found by a walk from each.
func liveOf(t *testing.T, x *bench) int {
	t.Helper()
	seen := map[uint64]int{}
	todo := append(slices.Clone(x.m.Stack), x.m.Result)
	for _, f := range x.m.Frames {
		todo = append(todo, f.Self)
	}
	for len(todo) > 0 {
		w := todo[0]
		todo = todo[1:]
		if o, ok := object.Get(x.a, x.m.Heap, w); ok && seen[w] == 0 {
			seen[w] = object.Words(o)
			todo = append(todo, o.Fields...)
		}
	}
	n := 0
	for _, words := range seen {
		n += words
	}
	return n
}

// lively is the bench with just so many words that are live, and garbage behind, up to the end.
func (c made) lively(t *testing.T, space, live int) *bench {
	t.Helper()
	x := c.bench(t, half, space, half-taken)
	fields := x.words('s', 'p', 'b', 'a', 'c', 'x')
	for taken+1+len(fields) < live {
		fields = append(fields, 1)
	}
	x.m.Stack[0] = x.put(t, api.Object{Kind: api.Array, Fields: fields})
	if n := liveOf(t, x); n != live {
		t.Fatalf("%d words are live, want %d", n, live)
	}
	x.garbage(t, 0)
	return x
}

func TestJustEnoughRoomBehindACollection(t *testing.T) {
	for _, c := range makers {
		for space := range 2 {
			for more := -2; more <= min(2, c.words); more++ { // than there is room for
				x := c.lively(t, space, half-c.words+more)
				if more > 0 {
					c.noWords(t, x)
				} else if z := c.makes(t, x); z.M.Heap.Top != half+more {
					t.Errorf("%v of %v: the heap is %v", c.i, x.m, z.M.Heap)
				}
			}
		}
	}
}

// noWords expects that the machine has no words, and stands as a collection left it.
func (c made) noWords(t *testing.T, x *bench) {
	t.Helper()
	live := liveOf(t, x)
	was := &arenaAt{copyOf(x.a), x.m.Heap}
	z := x.one(t, 1)
	want := x.m
	want.State = api.NoWords
	want.Heap.Space, want.Heap.Top = 1-x.m.Heap.Space, live
	want.Stack = z.M.Stack
	if z.Used != 1 || z.Short || z.Asks || !same(z.M, want) || len(z.M.Stack) != len(x.m.Stack) {
		t.Fatalf("%v of %v comes to %v, want no words", c.i, x.m, z)
	}
	for i, w := range z.M.Stack {
		if !sameValue(was, x.m.Stack[i], &arenaAt{x.a, z.M.Heap}, w) {
			t.Errorf("%v of %v: word %d of the stack is %#x", c.i, x.m, i, w)
		}
	}
	words := everything(x.a)[1]
	old := words[x.m.Heap.Space*half:][:half]
	if !reflect.DeepEqual(old, make([]uint64, half)) {
		t.Errorf("%v of %v: the semispace that was left holds %#x", c.i, x.m, old)
	}
	x.m = z.M
	if z, ok := step.One(x.a, x.p, x.m, math.MaxInt); ok {
		t.Errorf("one without words goes on to %v", z)
	}
}

func TestSelvesLiveOn(t *testing.T) {
	for space := range 2 {
		for _, state := range []int{api.Ready, api.NoWords} {
			x := innerOf(t, half, space, api.Ins{Op: api.OBlock, A: 2, B: 2}, 's', 'a')
			x.m.Handlers = []api.Handler{{Frame: 1, Height: 3, PC: 3}, {Frame: 2, Height: 8, PC: 2}}
			if state == api.NoWords {
				x.m.Stack[0] = x.put(t, api.Object{Kind: api.Array, Fields: slices.Repeat([]uint64{1}, half-taken-1)})
				x.m.Stack[1], x.m.Stack[2] = x.at['p'], x.at['x']
			}
			x.garbage(t, 0)
			z := x.one(t, 4)
			self := z.M.Frames[1].Self // nothing else leads to the closure
			o, ok := object.Get(x.a, z.M.Heap, self)
			if z.M.State != state || !ok || o.Kind != api.Closure || self == x.at['c'] || !slices.Equal(o.Fields, x.words(9)) || z.M.Frames[0].Self != 1 || !slices.Equal(z.M.Handlers, x.m.Handlers) {
				t.Errorf("%v of %v comes to %v, its closure is %v", x.ins(), x.m, z, o)
			}
		}
	}
}

// The words of a heap behind a collection for an array, one by one.
func TestTheWordsOfACollection(t *testing.T) {
	x := benchOf(t, half, 0, api.Ins{Op: api.OArray}, 30, 'p')
	z := x.one(t, 99)
	at := func(n int) uint64 { return word.Place(half + n) }
	want := make([]uint64, 2*half)
	copy(want[half:], []uint64{api.Block | 2<<32, word.Int(5), at(3), api.Str | 2<<32, 'a' | 'b'<<8, api.Array | 30<<32})
	for i := range 30 {
		want[half+6+i] = at(0)
	}
	if got := everything(x.a)[1]; !slices.Equal(got, want) {
		t.Errorf("the words are %#x, want %#x", got, want)
	}
	if z.Used != 32 || z.M.Heap != (api.Heap{Base: ahead, Half: half, Space: 1, Top: 36}) || !slices.Equal(z.M.Stack, []uint64{1, 1, at(5)}) {
		t.Errorf("it comes to %v", z)
	}
	x = benchOf(t, half, 0, api.Ins{Op: api.OArray}, 35, 'p')
	z = x.one(t, 1)
	clear(want[half+5:])
	if got := everything(x.a)[1]; !slices.Equal(got, want) {
		t.Errorf("without words the words are %#x, want %#x", got, want)
	}
	if z.Used != 1 || z.M.State != api.NoWords || z.M.Heap != (api.Heap{Base: ahead, Half: half, Space: 1, Top: 5}) || !slices.Equal(z.M.Stack, []uint64{1, 1, word.Int(35), at(0)}) || z.M.Frames[0].PC != 0 {
		t.Errorf("without words it comes to %v", z)
	}
}

// P12.1: Cost, and fuel

// short expects that the fuel is not enough, and that nothing changes.
func (x *bench) short(t *testing.T, fuel int) {
	t.Helper()
	before := everything(x.a)
	if z := x.one(t, fuel); !z.Short || z.Used != 0 || z.Asks || !same(z.M, x.m) {
		t.Errorf("%v of %v with %d of fuel comes to %v", x.ins(), x.m, fuel, z)
	}
	if !reflect.DeepEqual(everything(x.a), before) {
		t.Errorf("%v of %v with %d of fuel changed the arena", x.ins(), x.m, fuel)
	}
}

// fuelled expects that the bench's instruction costs so much, and is done with that fuel and with more, and with less it is not.
func fuelled(t *testing.T, of func() *bench, cost int) {
	t.Helper()
	x := of()
	if got := x.costs(t); got != cost {
		t.Errorf("%v of %v costs %d, want %d", x.ins(), x.m, got, cost)
	}
	x.short(t, math.MinInt)
	for fuel := -2; fuel < cost; fuel++ {
		x.short(t, fuel)
	}
	for _, fuel := range []int{cost, cost + 1, math.MaxInt} {
		y := of()
		if z := y.one(t, fuel); z.Short || z.Used != cost {
			t.Errorf("%v of %v with %d of fuel comes to %v", y.ins(), y.m, fuel, z)
		}
	}
}

func TestFuel(t *testing.T) {
	for space := range 2 {
		for _, c := range rights { // asked, too
			if !slices.Contains([]int{api.OStr, api.OClose, api.OBlock, api.OArray, api.OCat, api.OText}, c.i.Op) {
				fuelled(t, func() *bench { return c.bench(t, half, space) }, 1)
			}
			if len(c.stack) > 0 {
				fuelled(t, func() *bench { return innerOf(t, half, space, c.i, c.stack[1:]...) }, 1) // broken
			}
		}
		for _, c := range makers {
			fuelled(t, func() *bench { return c.bench(t, half, space, c.words) }, 1+c.words)
			fuelled(t, func() *bench { return c.bench(t, half, space, c.words-1) }, 1+c.words) // behind a collection
			fuelled(t, func() *bench { return c.lively(t, space, half-c.words+1) }, 1)         // no words
			fuelled(t, func() *bench { return c.bench(t, half, space, c.words).endless() }, 1)
		}
		fuelled(t, func() *bench { return benchOf(t, half, space, api.Ins{Op: api.OInt}).tall(api.MaxStack) }, 1)
		fuelled(t, func() *bench { return benchOf(t, half, space, api.Ins{Op: api.OStr, A: 2}).tall(api.MaxStack) }, 1)
		fuelled(t, func() *bench { return benchOf(t, half, space, api.Ins{Op: api.OArray}, 401, 0) }, 1)
		fuelled(t, func() *bench { return benchOf(t, half, space, api.Ins{Op: api.OGet}, 'a', 2) }, 1)
	}
	x := benchOf(t, 500, 0, api.Ins{Op: api.OArray}, api.MaxArray, 's')
	fuelled(t, func() *bench { return benchOf(t, 500, 0, api.Ins{Op: api.OArray}, api.MaxArray, 's') }, api.MaxArray+2)
	x.m.State = api.Blocked // short is as it is
	x.short(t, api.MaxArray+1)
}

func TestALittleAtATime(t *testing.T) {
	x := benchOf(t, api.MinHalf*3, 0, api.Ins{Op: api.OInt}, 0) // a list that grows till there are no words
	x.p.Funcs[0].Code = []api.Ins{{Op: api.OInt, A: 7}, {Op: api.OLocal, A: 1}, {Op: api.OBlock, A: 1, B: 2}, {Op: api.OSet, A: 1}, {Op: api.OJump}}
	x.m.Stack = x.m.Stack[:2]
	cells, cost := 0, 0
	for x.m.State == api.Ready {
		z := x.one(t, 4)
		if x.m.Frames[0].PC == 2 && z.M.State == api.Ready {
			cells++
		}
		cost += z.Used
		x.m = z.M
	}
	if x.m.State != api.NoWords || cells != 8 || x.m.Heap.Top != 24 || cost != 8*(1+1+4+1+1)+2+1 {
		t.Errorf("it comes to %v with %d cells at %d", x.m, cells, cost)
	}
}
