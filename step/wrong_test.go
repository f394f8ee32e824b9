package step_test

import (
	"math"
	"slices"
	"testing"

	"stockpot/api"
	"stockpot/op"
)

// right is an instruction with words that it may take; of kinds is what each of them must be: 'n' a number, 's' a text, 'b' a block, 'p' one of tag 0, 'a' an array, 'c' a closure of function 1, '*' any word.
type right struct {
	i     api.Ins
	stack []any
	kinds string
}

// rights has each op, with words of which it neither raises anything nor is it broken. OEnv needs a closure, OUntry a handler.
var rights = []right{
	{api.Ins{Op: api.OInt, A: 6}, nil, ""},
	{api.Ins{Op: api.OStr, A: 1}, nil, ""},
	{api.Ins{Op: api.OStr, A: 0}, nil, ""},
	{api.Ins{Op: api.OLocal, A: 1}, nil, ""},
	{api.Ins{Op: api.OSet, A: 1}, []any{'s'}, "*"},
	{api.Ins{Op: api.OEnv}, nil, ""},
	{api.Ins{Op: api.OSelf}, nil, ""},
	{api.Ins{Op: api.OClose, A: 1, B: 1}, []any{'s'}, "*"},
	{api.Ins{Op: api.OCall}, []any{'c', 4}, "c*"},
	{api.Ins{Op: api.OTail}, []any{'c', 4}, "c*"},
	{api.Ins{Op: api.ORet}, []any{'b'}, "*"},
	{api.Ins{Op: api.OJump, A: 2}, nil, ""},
	{api.Ins{Op: api.OJumpZ, A: 2}, []any{0}, "n"},
	{api.Ins{Op: api.OJumpZ, A: 2}, []any{1}, "n"},
	{api.Ins{Op: api.OAdd}, []any{6, 3}, "nn"},
	{api.Ins{Op: api.OSub}, []any{6, 3}, "nn"},
	{api.Ins{Op: api.OMul}, []any{6, 3}, "nn"},
	{api.Ins{Op: api.ODiv}, []any{6, 3}, "nn"},
	{api.Ins{Op: api.OMod}, []any{6, 3}, "nn"},
	{api.Ins{Op: api.OEq}, []any{6, 3}, "nn"},
	{api.Ins{Op: api.OLess}, []any{6, 3}, "nn"},
	{api.Ins{Op: api.OBlock, A: 4, B: 1}, []any{'s'}, "*"},
	{api.Ins{Op: api.OBlock, A: api.MaxTag, B: api.MaxSize}, []any{1, 's', 3, 'a', 5, 'c', 7, 'p'}, "********"},
	{api.Ins{Op: api.OField}, []any{'p'}, "b"},
	{api.Ins{Op: api.OIsInt, A: 5}, []any{5}, "*"},
	{api.Ins{Op: api.OIsTag, A: 3}, []any{'b'}, "*"},
	{api.Ins{Op: api.OStore}, []any{'p', 2}, "p*"},
	{api.Ins{Op: api.OArray}, []any{2, 's'}, "n*"},
	{api.Ins{Op: api.OArray}, []any{0, 's'}, "n*"},
	{api.Ins{Op: api.OGet}, []any{'a', 1}, "an"},
	{api.Ins{Op: api.OPut}, []any{'a', 1, 's'}, "an*"},
	{api.Ins{Op: api.OLen}, []any{'a'}, "a"},
	{api.Ins{Op: api.OCat}, []any{'s', 's'}, "ss"},
	{api.Ins{Op: api.OSize}, []any{'s'}, "s"},
	{api.Ins{Op: api.OByte}, []any{'s', 1}, "sn"},
	{api.Ins{Op: api.OText}, []any{-50}, "n"},
	{api.Ins{Op: api.OSame}, []any{'s', 's'}, "ss"},
	{api.Ins{Op: api.OTry, A: 2}, nil, ""},
	{api.Ins{Op: api.OUntry}, nil, ""},
	{api.Ins{Op: api.ORaise}, []any{6}, "n"},
	{api.Ins{Op: api.OHost, A: api.HEmit}, []any{6}, "n"},
	{api.Ins{Op: api.OHost, A: api.HLog}, []any{'s'}, "s"},
	{api.Ins{Op: api.OHost, A: api.HSend}, []any{6, 'p'}, "n*"},
	{api.Ins{Op: api.OHost, A: api.HSend}, []any{6, 'a'}, "n*"},
	{api.Ins{Op: api.OHost, A: api.HRecv, B: 1}, nil, ""},
	{pop, []any{'s'}, "*"},
}

// bench is one within a call at the right instruction.
func (c right) bench(t *testing.T, half, space int) *bench {
	t.Helper()
	x := innerOf(t, half, space, c.i, c.stack...)
	if c.i.Op == api.OUntry {
		x.m.Handlers = []api.Handler{{Frame: 2, Height: 6}}
	}
	return x
}

func TestRightOnes(t *testing.T) {
	seen := map[int]bool{}
	for _, c := range rights {
		seen[c.i.Op] = true
		for space := range 2 {
			x := c.bench(t, half, space)
			want := api.Ready
			if c.i.Op == api.ORaise {
				want = api.Raised
			}
			if z := x.one(t, math.MaxInt); z.M.State != want || z.Short {
				t.Errorf("%v of %v comes to %v", c.i, x.m, z)
			}
		}
	}
	if len(seen) != api.Ops {
		t.Errorf("there are %d ops", len(seen))
	}
}

func TestTooLittleOnTheStack(t *testing.T) {
	for _, c := range rights {
		takes, _, _ := op.Effect(c.i)
		for n := range takes {
			for space := range 2 {
				x := c.bench(t, half, space) // below are locals, and words of another frame
				x.m.Stack = append(x.m.Stack[:6:6], x.m.Stack[len(x.m.Stack)-n:]...)
				x.stays(t, api.Broken)
				x = benchOf(t, half, space, c.i, c.stack[takes-n:]...)
				x.stays(t, api.Broken)
			}
		}
	}
}

// is says whether the word that the letter, or the number, stands for is of the kind.
func is(v any, kind byte) bool {
	_, number := v.(int)
	switch kind {
	case '*':
		return true
	case 'n':
		return number
	case 'b':
		return v == 'b' || v == 'p'
	}
	return v == rune(kind)
}

func TestWordsOfAnotherKind(t *testing.T) {
	for _, c := range rights {
		for at := range c.kinds {
			for _, v := range []any{0, 1, -1, 2, most, 's', 'p', 'b', 'a', 'c', 'x'} {
				if is(v, c.kinds[at]) {
					continue
				}
				for space := range 2 {
					stack := slices.Clone(c.stack)
					stack[at] = v
					benchOf(t, half, space, c.i, stack...).stays(t, api.Broken)
					innerOf(t, half, space, c.i, append([]any{'s', 4}, stack...)...).stays(t, api.Broken)
				}
			}
		}
	}
}

func TestEmptyOnesOfAnotherKind(t *testing.T) {
	for _, o := range []api.Object{{Kind: api.Str}, {Kind: api.Array}, {Kind: api.Closure}, {Kind: api.Closure, Tag: 1}, {Kind: api.Block, Tag: 1, Fields: []uint64{1}}} {
		for _, c := range rights {
			for at, kind := range c.kinds {
				if kind == '*' || kind == 's' && o.Kind == api.Str || kind == 'b' && o.Kind == api.Block {
					continue
				}
				if kind == 'a' && o.Kind == api.Array { // of the right kind, but without the field
					continue
				}
				x := benchOf(t, half, 0, c.i)
				stack := x.words(c.stack...)
				stack[at] = x.put(t, o)
				x.m.Stack = append(x.m.Stack, stack...)
				x.stays(t, api.Broken)
			}
		}
	}
}

func TestWhatEndsMayStandLast(t *testing.T) {
	for _, c := range rights {
		for space := range 2 {
			x := c.bench(t, half, space)
			x.p.Funcs[1].Code = []api.Ins{pop, pop, c.i}
			x.last().PC = 2
			if op.Ends(c.i) {
				if z := x.one(t, math.MaxInt); z.M.State == api.Broken {
					t.Errorf("%v as the last one is broken", c.i)
				}
			} else {
				x.stays(t, api.Broken)
			}
			x.last().PC = 1 // one ahead of it something is behind
			x.m.Stack = append(x.m.Stack, 1)
			x.leaves(t, 2, slices.Clone(c.stack)...)
		}
	}
}

// fallen expects that the instruction, with these words, is broken, or is not.
func fallen(t *testing.T, i api.Ins, is bool, change func(x *bench), stack ...any) {
	t.Helper()
	benches(t, i, stack, func(x *bench) {
		change(x)
		if is {
			x.stays(t, api.Broken)
		} else if z := x.one(t, math.MaxInt); z.M.State == api.Broken {
			t.Errorf("%v of %v is broken", i, x.m)
		}
	})
}

func nothing(x *bench) {}

func TestLocalsThatThereAreNot(t *testing.T) {
	for _, locals := range []int{1, 2, 3} {
		for at := range api.MaxLocals {
			x := innerOf(t, half, 0, api.Ins{Op: api.OLocal, A: at}, 4, 5)
			y := innerOf(t, half, 0, api.Ins{Op: api.OSet, A: at}, 4, 5)
			x.p.Funcs[1].Locals, y.p.Funcs[1].Locals = locals, locals
			if at >= locals { // though there are words where they would be
				x.stays(t, api.Broken)
				y.stays(t, api.Broken)
			} else if x.one(t, 1).M.State+y.one(t, 1).M.State != 0 {
				t.Errorf("local %d of %d is none", at, locals)
			}
		}
	}
	x := benchOf(t, half, 0, api.Ins{Op: api.OLocal}, 4)
	x.p.Funcs[0].Locals = 0
	x.stays(t, api.Broken)
}

func TestWhatTheProgramHasNot(t *testing.T) {
	for at := range api.MaxStrs {
		fallen(t, api.Ins{Op: api.OStr, A: at}, at >= 3, nothing)
		fallen(t, api.Ins{Op: api.OStr, A: at}, true, func(x *bench) { x.p.Strs = nil })
	}
	for at := range api.MaxForms {
		fallen(t, api.Ins{Op: api.OHost, A: api.HRecv, B: at}, at >= 3, nothing)
		fallen(t, api.Ins{Op: api.OHost, A: api.HRecv, B: at}, true, func(x *bench) { x.p.Forms = nil })
	}
	for call, stack := range [][]any{{6}, {'s'}, {6, 'p'}} { // these need no form
		fallen(t, api.Ins{Op: api.OHost, A: call}, false, func(x *bench) { x.p.Forms = nil }, stack...)
	}
	for to := range api.MaxCode {
		for _, o := range []int{api.OJump, api.OTry, api.OJumpZ} {
			x := benchOf(t, half, 0, api.Ins{Op: o, A: to}, []any{0, 7}[to%2]) // jumpz need not jump
			if to >= 4 {
				x.stays(t, api.Broken)
			} else if x.one(t, 1).M.State != api.Ready {
				t.Errorf("%v is broken", x.ins())
			}
		}
	}
}

func TestFunctionsToClose(t *testing.T) {
	for free := range 4 {
		for to := 1; to < api.MaxFuncs; to++ {
			for b := range 4 {
				fallen(t, api.Ins{Op: api.OClose, A: to, B: b}, to != 1 || b != free, func(x *bench) { x.p.Funcs[1].Free = free }, 4, 's', 6)
			}
		}
	}
	for _, to := range []int{1, 2, 3} { // each has a Free of its own
		for b := range 4 {
			fallen(t, api.Ins{Op: api.OClose, A: to, B: b}, b != []int{1, 3, 0}[to-1], func(x *bench) {
				x.p.Funcs = append(x.p.Funcs, api.Func{Locals: 1, Free: 3, Code: []api.Ins{ret}}, api.Func{Locals: 1, Code: []api.Ins{ret}})
			}, 4, 's', 6)
		}
	}
}

func TestHandlersOfAFrameThatGoes(t *testing.T) {
	for _, o := range []int{api.ORet, api.OTail} {
		for _, c := range []struct {
			frames []int
			broken bool
		}{{nil, false}, {[]int{1}, false}, {[]int{2}, true}, {[]int{1, 1}, false}, {[]int{1, 2}, true}, {[]int{2, 2, 2}, true}} {
			for space := range 2 {
				x := innerOf(t, half, space, api.Ins{Op: o}, 'c', 4)
				for _, of := range c.frames {
					x.m.Handlers = append(x.m.Handlers, api.Handler{Frame: of, Height: 6})
				}
				if c.broken {
					x.stays(t, api.Broken)
				} else if z := x.one(t, 1); z.M.State != api.Ready || len(z.M.Handlers) != len(c.frames) {
					t.Errorf("%v of %v comes to %v", x.ins(), x.m, z.M)
				}
			}
		}
		x := benchOf(t, half, 0, api.Ins{Op: o}, 'c', 4)
		x.m.Handlers = []api.Handler{{Frame: 1, Height: 2}}
		x.stays(t, api.Broken)
	}
}

// P12.1: which comes first

// tall is the bench with its stack so high, by words under those that it has above its locals.
func (x *bench) tall(height int) *bench {
	more := slices.Repeat([]uint64{1}, height-len(x.m.Stack))
	x.m.Stack = slices.Insert(slices.Clone(x.m.Stack), x.floor(), more...)
	return x
}

// endless is the bench with its function's code cut behind the instruction.
func (x *bench) endless() *bench {
	x.p.Funcs[x.last().Func].Code = x.p.Funcs[x.last().Func].Code[:1]
	return x
}

func TestBrokenComesAheadOfWhatRaises(t *testing.T) {
	for _, c := range []right{
		{i: api.Ins{Op: api.ODiv}, stack: []any{4, 0}},
		{i: api.Ins{Op: api.OMod}, stack: []any{4, 0}},
		{i: api.Ins{Op: api.OArray}, stack: []any{-1, 0}},
		{i: api.Ins{Op: api.OArray}, stack: []any{401, 0}},
		{i: api.Ins{Op: api.OGet}, stack: []any{'a', 2}},
		{i: api.Ins{Op: api.OPut}, stack: []any{'a', -1, 4}},
		{i: api.Ins{Op: api.OByte}, stack: []any{'s', 2}},
	} {
		for space := range 2 {
			if z := benchOf(t, half, space, c.i, c.stack...).one(t, 1); z.M.State != api.Raised {
				t.Errorf("%v comes to %v", c.i, z)
			}
			benchOf(t, half, space, c.i, c.stack...).endless().stays(t, api.Broken)
			benchOf(t, half, space, c.i, c.stack[1:]...).stays(t, api.Broken)
			x := innerOf(t, half, space, c.i, c.stack...).endless()
			x.m.Handlers = []api.Handler{{Frame: 1, Height: 2}, {Frame: 2, Height: 6}}
			x.stays(t, api.Broken)
		}
	}
	for _, c := range []right{ // a division by 0 of what is no number, no field of what is no array
		{i: api.Ins{Op: api.ODiv}, stack: []any{'s', 0}},
		{i: api.Ins{Op: api.OMod}, stack: []any{'b', 0}},
		{i: api.Ins{Op: api.OGet}, stack: []any{'p', 9}},
		{i: api.Ins{Op: api.OPut}, stack: []any{'s', 9, 4}},
		{i: api.Ins{Op: api.OByte}, stack: []any{'a', 9}},
		{i: api.Ins{Op: api.OByte}, stack: []any{0, 9}},
	} {
		benches(t, c.i, c.stack, func(x *bench) { x.stays(t, api.Broken) })
	}
	x := benchOf(t, half, 0, api.Ins{Op: api.ORet}, 4) // and raise, though nothing need be behind it
	x.p.Funcs[0].Code[0] = api.Ins{Op: api.ORaise}
	x.m.Stack = x.m.Stack[:2]
	x.stays(t, api.Broken)
}

func TestBrokenComesAheadOfTooDeep(t *testing.T) {
	for _, c := range rights {
		if takes, leaves, _ := op.Effect(c.i); leaves <= takes && c.i.Op != api.OTry {
			continue
		}
		x := c.bench(t, half, 0).tall(api.MaxStack)
		if c.i.Op == api.OClose {
			x.p.Funcs[1].Free, x.p.Funcs[1].Code[0].B = 0, 0
		}
		x.stays(t, api.TooDeep)
		x.endless().stays(t, api.Broken)
	}
	for _, i := range []api.Ins{{Op: api.OLocal, A: 2}, {Op: api.OStr, A: 3}, {Op: api.OClose, A: 2}, {Op: api.OClose, A: 1}, {Op: api.OTry, A: 4}, {Op: api.OHost, A: api.HRecv, B: 3}, {Op: api.OEnv}} {
		benchOf(t, half, 1, i).tall(api.MaxStack).stays(t, api.Broken)
	}
	for _, stack := range [][]any{{'x', 4}, {'s', 4}, {4, 4}} {
		benchOf(t, half, 0, api.Ins{Op: api.OCall}, stack...).tall(api.MaxStack).stays(t, api.Broken)
		framesOf(t, api.MaxFrames, api.Ins{Op: api.OCall}, stack...).stays(t, api.Broken)
	}
	x := benchOf(t, half, 0, api.Ins{Op: api.OTry, A: 4})
	x.m.Handlers = slices.Repeat([]api.Handler{{Frame: 1, Height: 2}}, api.MaxHandlers)
	x.stays(t, api.Broken)
	x.p.Funcs[0].Code[0].A = 3
	x.stays(t, api.TooDeep)
}

// crammed is a bench in whose heap there is no room for a word more, and all is live.
func crammed(t *testing.T, space int, i api.Ins, stack ...any) *bench {
	t.Helper()
	x := benchOf(t, half, space, i)
	for _, c := range "spbacx" {
		x.m.Stack = append(x.m.Stack, x.at[c])
	}
	x.m.Stack = append(x.m.Stack, x.put(t, api.Object{Kind: api.Array, Fields: slices.Repeat([]uint64{1}, half-taken-1)}))
	x.m.Stack = append(x.m.Stack, x.words(stack...)...)
	return x
}

func TestAllComesAheadOfRoom(t *testing.T) {
	for space := range 2 {
		for _, c := range rights {
			x := crammed(t, space, c.i, c.stack...)
			if slices.Contains([]int{api.OStr, api.OClose, api.OBlock, api.OArray, api.OCat, api.OText}, c.i.Op) {
				if z := x.one(t, 1); z.M.State != api.NoWords || z.Used != 1 {
					t.Errorf("%v of %v comes to %v", c.i, x.m, z)
				}
				crammed(t, space, c.i, c.stack...).endless().stays(t, api.Broken)
			} else if z := x.one(t, 1); z.M.State == api.NoWords || z.M.Heap != x.m.Heap {
				t.Errorf("%v of %v comes to %v", c.i, x.m, z)
			}
		}
		crammed(t, space, api.Ins{Op: api.OCat}, 's', 4).stays(t, api.Broken)
		crammed(t, space, api.Ins{Op: api.OText}, 's').stays(t, api.Broken)
		crammed(t, space, api.Ins{Op: api.OArray}, 's', 4).stays(t, api.Broken)
		for _, n := range []int{-1, 401} {
			if z := crammed(t, space, api.Ins{Op: api.OArray}, n, 4).one(t, 1); z.M.State != api.Raised || z.M.Code != api.RLarge || z.M.Heap.Space != space {
				t.Errorf("an array of %d comes to %v", n, z)
			}
		}
		crammed(t, space, api.Ins{Op: api.OStr}).tall(api.MaxStack).stays(t, api.TooDeep)
		crammed(t, space, api.Ins{Op: api.OStr}).tall(api.MaxStack).endless().stays(t, api.Broken)
		x := crammed(t, space, api.Ins{Op: api.OClose, A: 1}).tall(api.MaxStack)
		x.p.Funcs[1].Free = 0
		x.stays(t, api.TooDeep)
	}
}
