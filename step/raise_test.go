package step_test

import (
	"fmt"
	"math"
	"slices"
	"strings"
	"testing"

	"stockpot/api"
	"stockpot/frame"
	"stockpot/object"
	"stockpot/word"
)

// raises expects that the instruction raises the code, at a cost of 1 and without a change of the arena: with no handler, with one of its own frame, with one of a frame ahead, and with one that waits too high.
func raises(t *testing.T, of func() *bench, code int64) {
	t.Helper()
	x := of()
	before := fmt.Sprint(everything(x.a))
	expect := func(x *bench, want api.Machine) {
		t.Helper()
		z := x.one(t, 1)
		if z.Used != 1 || z.Asks || !same(z.M, want) || !same(z.M, frame.Throw(ready(x.m), code)) {
			t.Errorf("%v of %v comes to %v, want %v", x.ins(), x.m, z, want)
		}
		if fmt.Sprint(everything(x.a)) != before {
			t.Errorf("%v of %v changed the arena", x.ins(), x.m)
		}
	}
	expect(x, api.Machine{Heap: x.m.Heap, State: api.Raised, Result: 1, Code: code})

	x = of()
	x.m.Handlers = []api.Handler{{Frame: 1, Height: 4, PC: 3}, {Frame: 2, Height: 7, PC: 2}}
	want := ready(x.m)
	want.Stack = append(slices.Clone(x.m.Stack[:7]), word.Int(code))
	want.Handlers = x.m.Handlers[:1]
	want.Frames = slices.Clone(x.m.Frames)
	want.Frames[1].PC = 2
	expect(x, want)

	x.m.Handlers = x.m.Handlers[:1]
	want.Stack = append(slices.Clone(x.m.Stack[:4]), word.Int(code))
	want.Frames = slices.Clone(x.m.Frames[:1])
	want.Frames[0].PC = 3
	want.Handlers = nil
	expect(x, want)

	// What the instruction takes is still there: a handler may wait as high as that.
	x.m.Handlers = []api.Handler{{Frame: 2, Height: len(x.m.Stack), PC: 1}}
	want = ready(x.m)
	want.Stack = append(slices.Clone(x.m.Stack), word.Int(code))
	want.Handlers = nil
	want.Frames = slices.Clone(x.m.Frames)
	want.Frames[1].PC = 1
	expect(x, want)

	x.m.Handlers = []api.Handler{{Frame: 2, Height: len(x.m.Stack) + 1, PC: 1}}
	want = x.m
	want.State = api.Broken
	expect(x, want)
}

func ready(m api.Machine) api.Machine {
	m.State = api.Ready
	return m
}

// raising expects the code of the instruction with these words, in either semispace, of a machine that is Ready, or Blocked.
func raising(t *testing.T, i api.Ins, code int64, stack ...any) {
	t.Helper()
	for space := range 2 {
		for _, state := range []int{api.Ready, api.Blocked} {
			raises(t, func() *bench {
				x := innerOf(t, half, space, i, append([]any{'p'}, stack...)...)
				x.m.State = state
				return x
			}, code)
		}
	}
}

func TestDivisionsByZero(t *testing.T) {
	for _, o := range []int{api.ODiv, api.OMod} {
		for _, n := range []int{0, 1, -9, least, most} {
			raising(t, api.Ins{Op: o}, api.RDiv, n, 0)
		}
		for _, n := range []int{1, -1, 2, least, most} {
			if z := benchOf(t, half, 0, api.Ins{Op: o}, 0, n).one(t, 1); z.M.State != api.Ready {
				t.Errorf("0 by %d comes to %v", n, z)
			}
		}
	}
	for _, o := range []int{api.OAdd, api.OSub, api.OMul, api.OEq, api.OLess} { // these need no other number
		if z := benchOf(t, half, 0, api.Ins{Op: o}, 4, 0).one(t, 1); z.M.State != api.Ready {
			t.Errorf("4, 0 comes to %v", z)
		}
	}
}

func TestBounds(t *testing.T) {
	for _, n := range []int{-1, -2, 2, 3, 256, 1 << 32, 1<<32 + 1, least, most} {
		raising(t, api.Ins{Op: api.OGet}, api.RBound, 'a', n)
		raising(t, api.Ins{Op: api.OPut}, api.RBound, 'a', n, 'b')
		raising(t, api.Ins{Op: api.OByte}, api.RBound, 's', n)
	}
	for _, many := range []int{0, 1, 7, 8, 9, 400} {
		for _, n := range []int{-1, 0, many - 1, many, many + 1} {
			x := benchOf(t, 500, 0, api.Ins{Op: api.OGet})
			w := x.put(t, api.Object{Kind: api.Array, Fields: slices.Repeat([]uint64{1}, many)})
			text := x.put(t, api.Object{Kind: api.Str, Text: strings.Repeat("x", many)})
			want := api.Raised
			if n >= 0 && n < many {
				want = api.Ready
			}
			for o, stack := range map[int][]uint64{api.OGet: {w, word.Int(int64(n))}, api.OPut: {w, word.Int(int64(n)), w}, api.OByte: {text, word.Int(int64(n))}} {
				x.p.Funcs[0].Code[0].Op = o
				x.m.Stack = append(x.m.Stack[:2:2], stack...)
				if z := x.one(t, 1); z.M.State != want || want == api.Raised && z.M.Code != api.RBound {
					t.Errorf("%v %d of %d comes to %v", x.ins(), n, many, z.M)
				}
			}
		}
	}
}

func TestArraysOfAnyNumber(t *testing.T) {
	for _, n := range []int{-1, -2, api.MaxArray + 1, api.MaxArray + 2, 1 << 32, 1<<32 + 1, least, most} {
		raising(t, api.Ins{Op: api.OArray}, api.RLarge, n, 's')
	}
	for _, n := range []int{0, 1, 2, api.MaxArray - 1, api.MaxArray} {
		x := benchOf(t, 500, 0, api.Ins{Op: api.OArray}, n, 's')
		z := x.one(t, n+2)
		o, _ := object.Get(x.a, z.M.Heap, z.M.Stack[2])
		if z.Used != n+2 || z.M.State != api.Ready || o.Kind != api.Array || !slices.Equal(o.Fields, slices.Repeat(x.words('s'), n)) {
			t.Errorf("an array of %d comes to %v", n, o)
		}
	}
}

func TestTextsTooLong(t *testing.T) {
	for _, first := range []int{0, 1, 200, 399, 400} {
		for _, second := range []int{0, 1, 2, 200, 201, 400} {
			of := func() *bench {
				x := innerOf(t, 200, 1, api.Ins{Op: api.OCat}, 'p')
				x.m.Stack = append(x.m.Stack, x.put(t, api.Object{Kind: api.Str, Text: strings.Repeat("<", first)}))
				x.m.Stack = append(x.m.Stack, x.put(t, api.Object{Kind: api.Str, Text: strings.Repeat(">", second)}))
				return x
			}
			if first+second > api.MaxBytes {
				raises(t, of, api.RLarge)
				continue
			}
			x := of()
			z := x.one(t, math.MaxInt)
			o, _ := object.Get(x.a, z.M.Heap, z.M.Stack[7])
			if z.M.State != api.Ready || o.Text != strings.Repeat("<", first)+strings.Repeat(">", second) || z.Used != 2+(first+second+7)/8 {
				t.Errorf("cat of %d and %d bytes comes to %v, %q", first, second, z, o.Text)
			}
		}
	}
}

func TestRaise(t *testing.T) {
	for _, n := range []int{77, 0, 1, -1, api.RLarge, least, most} {
		raising(t, api.Ins{Op: api.ORaise}, int64(n), n)
	}
}

// P12.1: handlers

func TestTry(t *testing.T) {
	for to := range 3 {
		for before := range api.MaxHandlers + 1 {
			x := innerOf(t, half, 0, api.Ins{Op: api.OTry, A: to}, 's', 4)
			x.m.Handlers = slices.Repeat([]api.Handler{{Frame: 1, Height: 3, PC: 2}}, before)
			if before == api.MaxHandlers {
				x.stays(t, api.TooDeep)
				continue
			}
			want := cloned(x.m)
			want.Handlers = append(want.Handlers, api.Handler{Frame: 2, Height: 8, PC: to})
			want.Frames[1].PC = 1
			if z := x.one(t, 1); z.Used != 1 || !same(z.M, want) {
				t.Errorf("try with %d handlers comes to %v, want %v", before, z, want)
			}
		}
	}
	for height := 2; height <= api.MaxStack; height++ {
		x := benchOf(t, half, 1, api.Ins{Op: api.OTry, A: 3}).tall(height)
		if height == api.MaxStack {
			x.stays(t, api.TooDeep)
		} else if z := x.one(t, 1); z.M.State != api.Ready || !slices.Equal(z.M.Handlers, []api.Handler{{Frame: 1, Height: height, PC: 3}}) {
			t.Errorf("try at %d comes to %v", height, z.M)
		}
	}
	x := framesOf(t, api.MaxFrames, api.Ins{Op: api.OTry, A: 1})
	if z := x.one(t, 1); z.M.State != api.Ready || !slices.Equal(z.M.Handlers, []api.Handler{{Frame: api.MaxFrames, Height: 2 * api.MaxFrames, PC: 1}}) {
		t.Errorf("try in the last frame comes to %v", z.M)
	}
}

func TestUntry(t *testing.T) {
	for _, c := range []struct {
		frames []int
		broken bool
	}{{nil, true}, {[]int{1}, true}, {[]int{2}, false}, {[]int{1, 1}, true}, {[]int{1, 2}, false}, {[]int{2, 2}, false}} {
		for space := range 2 {
			x := innerOf(t, half, space, api.Ins{Op: api.OUntry}, 's')
			for n, of := range c.frames {
				x.m.Handlers = append(x.m.Handlers, api.Handler{Frame: of, Height: 6 + n, PC: 2})
			}
			if c.broken {
				x.stays(t, api.Broken)
				continue
			}
			want := cloned(x.m)
			want.Handlers = want.Handlers[:len(c.frames)-1]
			want.Frames[1].PC = 1
			if z := x.one(t, 1); z.Used != 1 || !same(z.M, want) {
				t.Errorf("untry with handlers of %d comes to %v, want %v", c.frames, z, want)
			}
		}
	}
	benchOf(t, half, 0, api.Ins{Op: api.OUntry}).stays(t, api.Broken)
}

func TestTriedAndCaught(t *testing.T) {
	x := benchOf(t, half, 0, api.Ins{Op: api.OTry, A: 4}, 's', 6)
	x.p.Funcs[0].Code = []api.Ins{{Op: api.OTry, A: 4}, {Op: api.OInt}, {Op: api.ODiv}, ret, {Op: api.OAdd}, ret}
	for range 4 { // 6, divided by 0, is still there when the code is caught
		x.m = x.one(t, 1).M
	}
	if want := x.words(0, 0, 's', 5); !slices.Equal(x.m.Stack, want) || x.m.Frames[0].PC != 5 || len(x.m.Handlers) != 0 {
		t.Errorf("behind the add: %v, want the stack %d", x.m, want)
	}
}

// P12.1: the height of the stack

func TestMaxStack(t *testing.T) {
	grow := []api.Ins{{Op: api.OInt, A: 4}, {Op: api.OLocal}, {Op: api.OSelf}, {Op: api.OStr, A: 1}, {Op: api.OClose, A: 1}, {Op: api.OEnv}, {Op: api.OHost, A: api.HRecv}}
	for _, i := range grow {
		for height := api.MaxStack - 3; height <= api.MaxStack; height++ {
			for space := range 2 {
				x := innerOf(t, half, space, i).tall(height)
				if i.Op == api.OClose {
					x.p.Funcs[1].Free = 0
				}
				if height == api.MaxStack {
					x.stays(t, api.TooDeep)
				} else if z := x.one(t, math.MaxInt); z.M.State != api.Ready {
					t.Errorf("%v at %d comes to %v", i, height, z.M)
				}
			}
		}
	}
	for _, c := range rights { // these leave no more than they take
		if len(c.stack) == 0 || c.i.Op == api.OCall || c.i.Op == api.ORaise {
			continue
		}
		if z := innerOf(t, half, 0, c.i, c.stack...).tall(api.MaxStack).one(t, math.MaxInt); z.M.State != api.Ready {
			t.Errorf("%v at %d comes to %v", c.i, api.MaxStack, z.M)
		}
	}
}
