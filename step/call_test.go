package step_test

import (
	"math"
	"slices"
	"testing"

	"stockpot/api"
	"stockpot/word"
)

// framesOf is a bench with so many frames of the first function, the last one at the instruction.
func framesOf(t *testing.T, frames int, i api.Ins, stack ...any) *bench {
	t.Helper()
	x := benchOf(t, half, 0, i, stack...)
	x.m.Frames = nil
	for n := range frames {
		x.m.Frames = append(x.m.Frames, api.Frame{PC: 1, Base: 2 * n, Self: word.Int(int64(n))})
	}
	x.last().PC = 0
	x.m.Stack = append(slices.Repeat([]uint64{1}, 2*frames), x.words(stack...)...)
	return x
}

// P12.1: OCall, OTail, ORet

func TestCall(t *testing.T) {
	for space := range 2 {
		for _, v := range []any{4, 's', 'c', 'x'} {
			x := benchOf(t, half, space, api.Ins{Op: api.OCall}, 's', 'c', v)
			z := x.one(t, 1)
			want := x.m
			want.Stack = x.words(0, 0, 's', v, 0, 0)
			want.Frames = []api.Frame{{PC: 1, Self: 1}, {Func: 1, Base: 3, Self: x.at['c']}}
			if z.Used != 1 || !same(z.M, want) {
				t.Errorf("call of %v comes to %v, want %v", x.m, z, want)
			}
			x = innerOf(t, half, space, api.Ins{Op: api.OCall}, 's', 'c', v)
			z = x.one(t, 1)
			want = x.m
			want.Stack = x.words(0, 0, 11, 21, 'b', 23, 's', v, 0, 0)
			want.Frames = append(slices.Clone(x.m.Frames), api.Frame{Func: 1, Base: 7, Self: x.at['c']})
			want.Frames[1].PC = 1
			if z.Used != 1 || !same(z.M, want) {
				t.Errorf("call of %v comes to %v, want %v", x.m, z, want)
			}
		}
	}
}

func TestTail(t *testing.T) {
	for space := range 2 {
		for _, v := range []any{4, 's', 'c', 'x'} {
			x := benchOf(t, half, space, api.Ins{Op: api.OTail}, 's', 'c', v)
			z := x.one(t, 1)
			want := x.m
			want.Stack = x.words(v, 0, 0)
			want.Frames = []api.Frame{{Func: 1, Self: x.at['c']}}
			if z.Used != 1 || !same(z.M, want) {
				t.Errorf("tail of %v comes to %v, want %v", x.m, z, want)
			}
			x = innerOf(t, half, space, api.Ins{Op: api.OTail}, 's', 5, v)
			w := x.put(t, api.Object{Kind: api.Closure, Tag: 1, Fields: x.words(10)})
			x.m.Stack[7] = w
			x.m.Handlers = []api.Handler{{Frame: 1, Height: 7, PC: 3}}
			z = x.one(t, 1)
			want = x.m
			want.Stack = x.words(0, 0, 11, v, 0, 0)
			want.Frames = []api.Frame{x.m.Frames[0], {Func: 1, Base: 3, Self: w}}
			if z.Used != 1 || !same(z.M, want) {
				t.Errorf("tail of %v comes to %v, want %v", x.m, z, want)
			}
		}
	}
}

func TestLocalsOfWhatIsCalled(t *testing.T) {
	for locals := 1; locals <= api.MaxLocals; locals++ {
		for _, o := range []int{api.OCall, api.OTail} {
			x := benchOf(t, half, 0, api.Ins{Op: o}, 's', 'c', 'p')
			x.p.Funcs[1].Locals = locals
			want := append(x.words('p'), slices.Repeat([]uint64{1}, locals-1)...)
			if o == api.OCall {
				want = append(x.words(0, 0, 's'), want...)
			}
			if z := x.one(t, 1); !slices.Equal(z.M.Stack, want) || z.M.State != api.Ready {
				t.Errorf("%v of a function with %d locals comes to %v", x.ins(), locals, z.M)
			}
		}
	}
}

func TestClosuresThatCantBeCalled(t *testing.T) {
	for _, o := range []int{api.OCall, api.OTail} {
		for tag := range api.MaxFuncs {
			for fields := range 4 {
				for space := range 2 {
					x := benchOf(t, half, space, api.Ins{Op: o})
					x.p.Funcs = append(x.p.Funcs, api.Func{Locals: 1, Free: 2, Code: []api.Ins{ret}}, api.Func{Locals: 5, Code: []api.Ins{ret}})
					w := x.put(t, api.Object{Kind: api.Closure, Tag: tag, Fields: x.words(1, 's', 3)[:fields]})
					x.m.Stack = append(x.m.Stack, w, 5)
					free := map[int]int{1: 1, 2: 2, 3: 0} // the first function can't be called
					if n, ok := free[tag]; !ok || n != fields {
						x.stays(t, api.Broken)
						continue
					}
					z := x.one(t, 1)
					if f := z.M.Frames[len(z.M.Frames)-1]; z.M.State != api.Ready || f.Func != tag || f.Self != w {
						t.Errorf("%v of function %d with %d comes to %v", x.ins(), tag, fields, z.M)
					}
				}
			}
		}
	}
}

func TestMaxFrames(t *testing.T) {
	for frames := 1; frames <= api.MaxFrames; frames++ {
		x := framesOf(t, frames, api.Ins{Op: api.OCall}, 'c', 4)
		if frames == api.MaxFrames {
			x.stays(t, api.TooDeep)
		} else if z := x.one(t, 1); z.M.State != api.Ready || len(z.M.Frames) != frames+1 {
			t.Errorf("call with %d frames comes to %v", frames, z.M)
		}
		x = framesOf(t, frames, api.Ins{Op: api.OTail}, 'c', 4)
		if z := x.one(t, 1); z.M.State != api.Ready || len(z.M.Frames) != frames || z.M.Frames[frames-1] != (api.Frame{Func: 1, Base: 2*frames - 2, Self: x.at['c']}) {
			t.Errorf("tail with %d frames comes to %v", frames, z.M)
		}
	}
}

func TestMaxStackOfCalls(t *testing.T) {
	for locals := 1; locals <= api.MaxLocals; locals++ {
		for more := -2; more <= 2; more++ {
			height := api.MaxStack + 2 - locals + more // with both taken off, and the locals laid on, it is more above
			if height > api.MaxStack {
				continue
			}
			x := benchOf(t, half, 0, api.Ins{Op: api.OCall}, 'c', 4).tall(height)
			x.p.Funcs[1].Locals = locals
			if more > 0 {
				x.stays(t, api.TooDeep)
			} else if z := x.one(t, 1); z.M.State != api.Ready || len(z.M.Stack) != api.MaxStack+more {
				t.Errorf("call at %d comes to %v", height, z.M)
			}
		}
		for base := api.MaxStack - locals - 2; base <= min(api.MaxStack-locals+2, api.MaxStack-4); base++ {
			x := benchOf(t, half, 0, api.Ins{Op: api.OTail}, 'c', 4)
			x.last().Base = base
			x.m.Stack = append(slices.Repeat([]uint64{1}, base), x.m.Stack...)
			x.p.Funcs[1].Locals = locals
			if base+locals > api.MaxStack {
				x.stays(t, api.TooDeep)
			} else if z := x.one(t, 1); z.M.State != api.Ready || len(z.M.Stack) != base+locals {
				t.Errorf("tail at %d comes to %v", base, z.M)
			}
		}
	}
	x := benchOf(t, half, 0, api.Ins{Op: api.OTail}, 'c', 4).tall(api.MaxStack) // the stack is cut first
	x.p.Funcs[1].Locals = api.MaxLocals
	if z := x.one(t, 1); z.M.State != api.Ready || len(z.M.Stack) != api.MaxLocals {
		t.Errorf("tail at the highest comes to %v", z.M)
	}
}

func TestRet(t *testing.T) {
	for space := range 2 {
		for _, v := range []any{4, 's', 'c'} {
			x := benchOf(t, half, space, api.Ins{Op: api.ORet}, 's', v)
			z := x.one(t, 1)
			if want := (api.Machine{Heap: x.m.Heap, State: api.Halted, Result: x.words(v)[0]}); z.Used != 1 || !same(z.M, want) {
				t.Errorf("ret of %v comes to %v, want %v", x.m, z, want)
			}
			x.m.Frames[0].Base = 1 // what is below stays
			z = x.one(t, 1)
			if want := (api.Machine{Heap: x.m.Heap, Stack: []uint64{1}, State: api.Halted, Result: x.words(v)[0]}); z.Used != 1 || !same(z.M, want) {
				t.Errorf("ret of %v comes to %v, want %v", x.m, z, want)
			}
			x = innerOf(t, half, space, api.Ins{Op: api.ORet}, 's', 4, v)
			x.m.Handlers = []api.Handler{{Frame: 1, Height: 2, PC: 3}, {Frame: 1, Height: 9, PC: 3}}
			z = x.one(t, 1)
			want := x.m
			want.Stack, want.Frames = x.words(0, 0, 11, v), x.m.Frames[:1]
			if z.Used != 1 || !same(z.M, want) {
				t.Errorf("ret of %v comes to %v, want %v", x.m, z, want)
			}
		}
	}
	x := framesOf(t, api.MaxFrames, api.Ins{Op: api.ORet}, 4)
	for n := api.MaxFrames - 1; n > 0; n-- {
		z := x.one(t, 1)
		if len(z.M.Frames) != n || len(z.M.Stack) != 2*n+1 || z.M.Stack[2*n] != word.Int(4) || z.M.Frames[n-1] != (api.Frame{PC: 1, Base: 2*n - 2, Self: word.Int(int64(n - 1))}) {
			t.Fatalf("ret of %v comes to %v", x.m, z)
		}
		x.m = z.M
		x.last().PC = 0
	}
}

func TestThereAndBack(t *testing.T) {
	for _, i := range []api.Ins{{Op: api.OCall}, {Op: api.OTail}} {
		x := benchOf(t, half, 1, i, 's', 'c', 'p')
		x.m = x.one(t, 1).M
		x.p.Funcs[1].Code = []api.Ins{{Op: api.OLocal}, {Op: api.OField, A: 1}, ret}
		for range 3 {
			x.m = x.one(t, 1).M
		}
		want := api.Machine{Heap: x.m.Heap, State: api.Halted, Result: x.at['s']}
		if i.Op == api.OCall {
			want = api.Machine{Heap: x.m.Heap, Stack: x.words(0, 0, 's', 's'), Frames: []api.Frame{{PC: 1, Self: 1}}, Result: 1}
		}
		if !same(x.m, want) {
			t.Errorf("behind %v there and back: %v, want %v", i, x.m, want)
		}
		if z := x.one(t, math.MaxInt); i.Op == api.OCall && z.M.State != api.Ready {
			t.Errorf("behind the way back: %v", z)
		}
	}
}
