package frame_test

import (
	"math"
	"math/rand"
	"reflect"
	"slices"
	"testing"

	"stockpot/api"
	"stockpot/arena"
	"stockpot/code"
	"stockpot/frame"
	"stockpot/object"
	"stockpot/word"
)

const (
	least = -1 << 62
	most  = 1<<62 - 1
)

// ahead is how many words of the arena lie in another region ahead of the heap's; so many lie in one behind it.
const ahead = 3

// litter is what the words hold that no object takes: it looks like the head of a block.
const litter = 0x1_0000_0001

// empty is an arena with a heap that has no objects, its words full of litter, a region on either side of it.
func empty(half, space int) (*arena.Arena, api.Heap) {
	a, _ := arena.New(2*half + 2*ahead)
	for _, n := range []int{ahead, 2 * half, ahead} {
		base, _ := a.Cut(n)
		for at := range n {
			a.Set(base, at, litter)
		}
	}
	return a, api.Heap{Base: ahead, Half: half, Space: space}
}

// program has a function of each way: the first one, one that is called, one with a single instruction.
func program() api.Program {
	pop := api.Ins{Op: api.OPop}
	return api.Program{Funcs: []api.Func{
		{Locals: 3, Code: []api.Ins{{Op: api.OInt, A: 1}, pop, {Op: api.OInt}, {Op: api.ORet}}},
		{Locals: 2, Free: 1, Code: []api.Ins{pop, {Op: api.ORet}}},
		{Locals: 1, Code: []api.Ins{{Op: api.ORet}}},
	}}
}

// half is how many words a semispace of the plain machine's heap has.
const half = 20

// machine is the plain one, which may be with program: a closure, a text and a block in its heap, three frames, three handlers.
func machine(t *testing.T, space int) (*arena.Arena, api.Machine) {
	t.Helper()
	a, h := empty(half, space)
	var at [3]uint64
	for i, o := range []api.Object{
		{Kind: api.Closure, Tag: 1, Fields: []uint64{9}},
		{Kind: api.Str, Text: "12345678"},
		{Kind: api.Block, Tag: 4, Fields: []uint64{1, 1}},
	} {
		n, w, ok := object.Put(a, h, o)
		if !ok {
			t.Fatalf("Put(%v, %v): false", h, o)
		}
		h, at[i] = n, w
	}
	return a, api.Machine{
		Heap:     h,
		Stack:    []uint64{1, at[1], 5, 7, at[0], 11, 13, 15, at[2], 19, 21, at[2]},
		Frames:   []api.Frame{{Func: 0, PC: 2, Base: 0, Self: 1}, {Func: 1, PC: 1, Base: 4, Self: at[0]}, {Func: 2, PC: 0, Base: 8, Self: 3}},
		Handlers: []api.Handler{{Frame: 1, Height: 3, PC: 3}, {Frame: 3, Height: 9, PC: 0}, {Frame: 3, Height: 11, PC: 0}},
		Result:   1,
	}
}

// same says whether both machines are one.
func same(m, n api.Machine) bool {
	return m.Heap == n.Heap && slices.Equal(m.Stack, n.Stack) && slices.Equal(m.Frames, n.Frames) && slices.Equal(m.Handlers, n.Handlers) && m.State == n.State && m.Result == n.Result && m.Code == n.Code
}

// everything is the words of each region of the arena; the heap's is the second one.
func everything(a *arena.Arena) [][]uint64 {
	var whole [][]uint64
	for _, r := range a.Regions() {
		l, _ := a.Words(r[0])
		whole = append(whole, l)
	}
	return whole
}

// What stands in the spare room behind the lists that are handed in.
const spareWord = 0x77

var (
	spareFrame   = api.Frame{Func: 77, PC: 77, Base: 77, Self: 77}
	spareHandler = api.Handler{Frame: 77, Height: 77, PC: 77}
)

// withSpare is the same list with some of spare in its spare room.
func withSpare[T any](l []T, spare T) []T {
	return append(slices.Clone(l), spare, spare, spare)[:len(l)]
}

// hasSpare says whether the list's spare room holds what withSpare laid there.
func hasSpare[T comparable](l []T, spare T) bool {
	behind := l[len(l) : len(l)+3]
	return behind[0] == spare && behind[1] == spare && behind[2] == spare
}

// handed is the machine with something in the spare room of its lists.
func handed(m api.Machine) api.Machine {
	m.Stack, m.Frames, m.Handlers = withSpare(m.Stack, spareWord), withSpare(m.Frames, spareFrame), withSpare(m.Handlers, spareHandler)
	return m
}

// kept expects of a machine that was handed in that it is as it was.
func kept(t *testing.T, given, m api.Machine) {
	t.Helper()
	if !same(given, m) || !hasSpare(given.Stack, spareWord) || !hasSpare(given.Frames, spareFrame) || !hasSpare(given.Handlers, spareHandler) {
		t.Errorf("the machine %v is now %v", m, given)
	}
}

// scribble writes over each place of the list, its spare room included.
func scribble[T any](l []T, v T) {
	for i := range l[:cap(l)] {
		l[:cap(l)][i] = v
	}
}

// scribbleOver writes over each list of the machine.
func scribbleOver(m api.Machine) {
	scribble(m.Stack, 99)
	scribble(m.Frames, api.Frame{Func: 99, PC: 99, Base: 99, Self: 99})
	scribble(m.Handlers, api.Handler{Frame: 99, Height: 99, PC: 99})
}

// apart expects that what one writes into the machine that was handed in, or into the one that is told, can't be seen in the other one.
func apart(t *testing.T, given, m, told api.Machine) {
	t.Helper()
	kept(t, given, m)
	was := told
	was.Stack, was.Frames, was.Handlers = slices.Clone(told.Stack), slices.Clone(told.Frames), slices.Clone(told.Handlers)
	scribbleOver(told)
	kept(t, given, m)
	told.Stack, told.Frames, told.Handlers = append(told.Stack[:0], was.Stack...), append(told.Frames[:0], was.Frames...), append(told.Handlers[:0], was.Handlers...)
	scribbleOver(given)
	if !same(told, was) {
		t.Errorf("what was told is %v, and was %v", told, was)
	}
}

// P11.1: Start

// start expects that the program is begun with so many locals, and stays as it is.
func start(t *testing.T, h api.Heap, p api.Program, locals int) {
	t.Helper()
	before, _ := code.Encode(p)
	m := frame.Start(h, p)
	want := api.Machine{Heap: h, Stack: slices.Repeat([]uint64{1}, locals), Frames: []api.Frame{{Func: 0, PC: 0, Base: 0, Self: 1}}, State: api.Ready, Result: 1}
	if !same(m, want) {
		t.Errorf("Start(%v, %v) = %v, want %v", h, p, m, want)
	}
	scribbleOver(m)
	if n := frame.Start(h, p); !same(n, want) {
		t.Errorf("Start(%v, %v) for the second time = %v, want %v", h, p, n, want)
	}
	if after, ok := code.Encode(p); !ok || !slices.Equal(after, before) {
		t.Errorf("the program is now %v", p)
	}
}

// noStart expects that the machine of a program that may not be is broken.
func noStart(t *testing.T, h api.Heap, p api.Program) {
	t.Helper()
	if code.Good(p) {
		t.Fatalf("%v may be", p)
	}
	m := frame.Start(h, p)
	if want := (api.Machine{Heap: h, State: api.Broken, Result: 1}); !same(m, want) {
		t.Errorf("Start(%v, %v) = %v, want %v", h, p, m, want)
	}
}

var (
	heaps = []api.Heap{{}, {Base: 3, Half: 9, Space: 1, Top: 2}, {Base: -1, Half: math.MaxInt, Space: math.MinInt, Top: 1 << 40}}
	ret   = []api.Ins{{Op: api.ORet}}
)

func TestStart(t *testing.T) {
	for _, h := range heaps {
		for _, locals := range []int{0, 1, 2, 3, 17, api.MaxLocals - 1, api.MaxLocals} {
			start(t, h, api.Program{Funcs: []api.Func{{Locals: locals, Code: ret}}}, locals)
			start(t, h, api.Program{Funcs: []api.Func{{Locals: locals, Code: ret}, {Locals: 5, Free: 2, Code: ret}}, Strs: []string{"a"}, Forms: []api.Form{{Kind: api.FInt}}}, locals)
		}
		start(t, h, program(), 3)
	}
}

func TestStartOfProgramsThatMayNotBe(t *testing.T) {
	f := api.Func{Locals: 2, Code: ret}
	for _, h := range heaps {
		noStart(t, h, api.Program{})
		noStart(t, h, api.Program{Funcs: []api.Func{}, Strs: []string{"a"}})
		for _, locals := range []int{-1, api.MaxLocals + 1, 1 << 32, math.MaxInt, math.MinInt} {
			noStart(t, h, api.Program{Funcs: []api.Func{{Locals: locals, Code: ret}}})
		}
		noStart(t, h, api.Program{Funcs: []api.Func{{Locals: 2}}})
		noStart(t, h, api.Program{Funcs: []api.Func{{Locals: 2, Free: 1, Code: ret}}})
		noStart(t, h, api.Program{Funcs: []api.Func{{Locals: 2, Code: []api.Ins{{Op: api.Ops}}}}})
		noStart(t, h, api.Program{Funcs: []api.Func{f, {Locals: 0, Code: ret}}})
		noStart(t, h, api.Program{Funcs: []api.Func{f}, Forms: []api.Form{{}}})
		noStart(t, h, api.Program{Funcs: slices.Repeat([]api.Func{f}, api.MaxFuncs+1)})
	}
}

func TestStartedMachinesMayBe(t *testing.T) {
	r := rand.New(rand.NewSource(1))
	for range 300 {
		a, h, _ := someHeap(r)
		p := someProgram(r)
		m := frame.Start(h, p)
		good(t, a, p, m)
		rootsAndBack(t, m)
	}
	a, h := empty(half, 0)
	for _, locals := range []int{0, 1, api.MaxLocals} {
		p := api.Program{Funcs: []api.Func{{Locals: locals, Code: ret}}}
		good(t, a, p, frame.Start(h, p))
	}
	for _, p := range []api.Program{{}, {Funcs: []api.Func{{Locals: 2}}}} {
		bad(t, a, p, frame.Start(h, p))
	}
}

// P11.2: Roots

func TestRootsInTheirOrder(t *testing.T) {
	_, m := machine(t, 0)
	closure, text, block := uint64(0), uint64(4), uint64(8)
	m.Result = text
	given := handed(m)
	l := frame.Roots(given)
	want := []uint64{1, text, 5, 7, closure, 11, 13, 15, block, 19, 21, block, 1, closure, 3, text}
	if !slices.Equal(l, want) {
		t.Errorf("Roots(%v) = %d, want %d", m, l, want)
	}
	kept(t, given, m)
	was := slices.Clone(l)
	scribble(l, 99)
	kept(t, given, m)
	copy(l, was)
	scribbleOver(given)
	if !slices.Equal(l, was) {
		t.Errorf("the roots are %d, and were %d", l, was)
	}
}

func TestRootsOfFew(t *testing.T) {
	for _, x := range []struct {
		m    api.Machine
		want []uint64
	}{
		{api.Machine{}, []uint64{0}},
		{api.Machine{Result: 5}, []uint64{5}},
		{api.Machine{Stack: []uint64{}, Frames: []api.Frame{}, Result: 5}, []uint64{5}},
		{api.Machine{Stack: []uint64{3}, Result: 5}, []uint64{3, 5}},
		{api.Machine{Frames: []api.Frame{{Func: 9, PC: 9, Base: 9, Self: 3}}, Result: 5}, []uint64{3, 5}},
		{api.Machine{Stack: []uint64{7, 9}, Frames: []api.Frame{{Self: 3}, {Self: 1 << 63}}, Handlers: []api.Handler{{Frame: 8}}, State: 77, Result: math.MaxUint64, Code: 6}, []uint64{7, 9, 3, 1 << 63, math.MaxUint64}},
	} {
		given := handed(x.m)
		if l := frame.Roots(given); !slices.Equal(l, x.want) {
			t.Errorf("Roots(%v) = %d, want %d", x.m, l, x.want)
		}
		kept(t, given, x.m)
		rootsAndBack(t, x.m)
	}
}

// P11.2: WithRoots

// withRoots expects that the machine with the roots is what it is to be, and shares nothing with what was handed in.
func withRoots(t *testing.T, m api.Machine, h api.Heap, roots []uint64, want api.Machine) {
	t.Helper()
	given, words := handed(m), withSpare(roots, spareWord)
	n, ok := frame.WithRoots(given, h, words)
	if !ok || !same(n, want) {
		t.Errorf("WithRoots(%v, %v, %d) = %v, %t, want %v", m, h, roots, n, ok, want)
		return
	}
	if !slices.Equal(words, roots) || !hasSpare(words, spareWord) {
		t.Errorf("the roots %d are now %d", roots, words)
	}
	scribble(words, 99)
	if !same(n, want) {
		t.Errorf("behind a change of the roots the machine is %v, and was %v", n, want)
	}
	copy(words, roots)
	apart(t, given, m, n)
	if !slices.Equal(words, roots) {
		t.Errorf("behind a change of the machine the roots %d are %d", roots, words)
	}
}

// noWithRoots expects that there is no machine with the roots.
func noWithRoots(t *testing.T, m api.Machine, h api.Heap, roots []uint64) {
	t.Helper()
	given, words := handed(m), withSpare(roots, spareWord)
	if n, ok := frame.WithRoots(given, h, words); ok || !same(n, api.Machine{}) {
		t.Errorf("WithRoots(%v, %v, %d) = %v, %t, want none", m, h, roots, n, ok)
	}
	kept(t, given, m)
	if !slices.Equal(words, roots) || !hasSpare(words, spareWord) {
		t.Errorf("the roots %d are now %d", roots, words)
	}
}

// rootsAndBack expects that the machine with its own roots is the machine.
func rootsAndBack(t *testing.T, m api.Machine) {
	t.Helper()
	roots := frame.Roots(m)
	if want := plainRoots(m); !slices.Equal(roots, want) {
		t.Errorf("Roots(%v) = %d, want %d", m, roots, want)
	}
	withRoots(t, m, m.Heap, roots, m)
}

// fresh is so many words, no two of them the same.
func fresh(n int) []uint64 {
	l := make([]uint64, n)
	for i := range l {
		l[i] = uint64(1000 + i) // of both sorts: a word need not be a root that may be
	}
	return l
}

func TestWithRoots(t *testing.T) {
	_, m := machine(t, 0)
	m.State, m.Code = api.NoWords, -8
	want := m
	want.Heap = api.Heap{Base: 7, Half: 6, Space: 5, Top: 4}
	want.Stack = fresh(12)
	want.Frames = []api.Frame{{Func: 0, PC: 2, Base: 0, Self: 1012}, {Func: 1, PC: 1, Base: 4, Self: 1013}, {Func: 2, PC: 0, Base: 8, Self: 1014}}
	want.Result = 1015
	withRoots(t, m, want.Heap, fresh(16), want)
	withRoots(t, api.Machine{}, api.Heap{Top: -1}, []uint64{6}, api.Machine{Heap: api.Heap{Top: -1}, Result: 6})
	withRoots(t, api.Machine{State: 88, Code: 4}, api.Heap{}, []uint64{6}, api.Machine{State: 88, Code: 4, Result: 6})
}

func TestWithRootsOfTooFewOrTooMany(t *testing.T) {
	_, m := machine(t, 0)
	few := []api.Machine{m, {}, {Stack: []uint64{3}}, {Frames: []api.Frame{{}}}, {Handlers: []api.Handler{{}, {}}}}
	for _, m := range few {
		need := len(m.Stack) + len(m.Frames) + 1
		noWithRoots(t, m, m.Heap, nil)
		noWithRoots(t, m, m.Heap, []uint64{})
		for n := range need + 10 {
			if n != need {
				noWithRoots(t, m, m.Heap, fresh(n))
			}
		}
		noWithRoots(t, m, m.Heap, fresh(2*need))
		noWithRoots(t, m, m.Heap, fresh(70000))
	}
}

// P11.3

func TestWithRootsOfRootsIsTheMachine(t *testing.T) {
	r := rand.New(rand.NewSource(2))
	for range 300 {
		_, h, words := someHeap(r)
		m := someMachine(r, h, someProgram(r), words)
		rootsAndBack(t, m)
		for range 3 { // nor does it matter whether it may be
			spoil(r, &m)
			rootsAndBack(t, m)
		}
		l := fresh(len(m.Stack) + len(m.Frames) + 1)
		if n, ok := frame.WithRoots(m, api.Heap{Top: 3}, l); !ok || !slices.Equal(frame.Roots(n), l) || n.Heap != (api.Heap{Top: 3}) {
			t.Errorf("WithRoots(%v, .., %d) = %v, %t", m, l, n, ok)
		}
	}
}

func TestHandedInTwice(t *testing.T) {
	a, m := machine(t, 1)
	before := everything(a)
	for range 2 { // an answer hangs on what is handed in alone
		good(t, a, program(), m)
		throw(t, m, 5)
		rootsAndBack(t, m)
	}
	if !reflect.DeepEqual(everything(a), before) {
		t.Error("the arena is not as it was")
	}
	if w := word.Place(half); m.Stack[4] != w {
		t.Errorf("the closure is at %#x, want %#x", m.Stack[4], w)
	}
}
