package step_test

import (
	"math"
	"reflect"
	"slices"
	"testing"

	"stockpot/api"
	"stockpot/step"
	"stockpot/word"
)

// none expects that there is no answer, to whatever is asked of the machine, and that nothing changes.
func (x *bench) none(t *testing.T) {
	t.Helper()
	var before [][]uint64
	if x.a != nil {
		before = everything(x.a)
	}
	given := handed(x.m)
	for _, fuel := range []int{math.MinInt, -1, 0, 1, 2, math.MaxInt} {
		if z, ok := step.One(x.a, x.p, given, fuel); ok || !sameStepped(z, api.Stepped{}) {
			t.Errorf("One(%v, %v, %d) = %v, %t", x.p, x.m, fuel, z, ok)
		}
	}
	if cost, ok := step.Cost(x.a, x.p, given); ok || cost != 0 {
		t.Errorf("Cost(%v, %v) = %d, %t", x.p, x.m, cost, ok)
	}
	for _, r := range []api.Reply{{}, {N: 1}, {None: true}, {Mail: api.Message{{N: 1}}}, {Mail: api.Message{{Kind: api.Str}}}} {
		if m, ok := step.Answer(x.a, x.p, given, r); ok || !same(m, api.Machine{}) {
			t.Errorf("Answer(%v, %v, %v) = %v, %t", x.p, x.m, r, m, ok)
		}
	}
	kept(t, given, x.m)
	if x.a != nil && !reflect.DeepEqual(everything(x.a), before) {
		t.Errorf("asked of %v the arena changed", x.m)
	}
}

// some are instructions of each sort: one that goes on, one that makes an object, one that asks, one that is broken.
var some = []right{
	{i: api.Ins{Op: api.OAdd}, stack: []any{1, 2}}, {i: api.Ins{Op: api.OArray}, stack: []any{30, 'p'}},
	{i: host(api.HEmit, 0), stack: []any{1}}, {i: host(api.HSend, 0), stack: []any{1, 'p'}}, {i: host(api.HRecv, 1)}, {i: pop},
}

func TestStates(t *testing.T) {
	for _, c := range some {
		for state := -2; state <= api.Killed+2; state++ {
			for space := range 2 {
				x := benchOf(t, half, space, c.i, c.stack...)
				x.m.State = state
				if state == api.Ready || state == api.Blocked {
					if z := x.one(t, 99); z.Used == 0 {
						t.Errorf("in State %d %v comes to %v", state, c.i, z)
					}
					continue
				}
				x.none(t)
				switch state {
				case api.Halted:
					x.m.Result = x.at['s']
				case api.Raised:
					x.m.Code = 7
				}
				x.none(t)
				x.m.Frames = nil
				x.none(t)
			}
		}
	}
}

func TestMachinesThatMayNotBe(t *testing.T) {
	far := []int{math.MinInt, -1, 4, 200, 1 << 32, math.MaxInt}
	changes := []func(x *bench){
		func(x *bench) { x.a = nil },
		func(x *bench) { x.m = api.Machine{} },
		func(x *bench) { x.m.Frames = nil },
		func(x *bench) { x.m.Stack = x.m.Stack[:1] },
		func(x *bench) { x.m.Stack = append(x.m.Stack, slices.Repeat([]uint64{1}, api.MaxStack)...) },
		func(x *bench) { x.m.Frames = slices.Repeat(x.m.Frames, api.MaxFrames+1) },
		func(x *bench) {
			x.m.Handlers = slices.Repeat([]api.Handler{{Frame: 1, Height: 2}}, api.MaxHandlers+1)
		},
		func(x *bench) { x.m.Handlers = []api.Handler{{}} },
		func(x *bench) { x.m.Handlers = []api.Handler{{Frame: 1, Height: 1}} },
		func(x *bench) { x.m.Handlers = []api.Handler{{Frame: 1, Height: api.MaxStack}} },
		func(x *bench) { x.m.Handlers = []api.Handler{{Frame: 2, Height: 2}} },
		func(x *bench) { x.m.Result = 3 },
		func(x *bench) { x.m.Result = 0 },
		func(x *bench) { x.m.Code = 1 },
		func(x *bench) { x.m.Stack[0] = x.at['p'] + 2 },
		func(x *bench) { x.m.Stack[1] = word.Place(7 * half) },
		func(x *bench) { x.m.Frames[0].Self = 1 << 40 },
		func(x *bench) { x.m.Heap.Top -= 2 }, // within an object
		func(x *bench) { x.m.Heap.Base = 0 },
		func(x *bench) { x.m.Heap.Half-- },
		func(x *bench) { x.m.Heap.Space = 2 },
		func(x *bench) { x.a.Set(ahead, x.m.Heap.Space*half, litter+8) },
		func(x *bench) { x.a.Free(ahead) },
		func(x *bench) { x.p = api.Program{} },
		func(x *bench) { x.p.Funcs[0].Free = 1 },
		func(x *bench) { x.p.Funcs[1].Locals = 0 },
		func(x *bench) { x.p.Funcs[1].Code = nil },
		func(x *bench) { x.p.Funcs[1].Code[1] = api.Ins{Op: api.Ops} },
		func(x *bench) { x.p.Funcs[1].Code[1] = api.Ins{Op: api.OPop, A: 1} },
		func(x *bench) { x.p.Funcs[0].Code[0] = api.Ins{Op: -1} },
		func(x *bench) { x.p.Strs = make([]string, api.MaxStrs+1) },
		func(x *bench) { x.p.Forms[0].Kind = 0 },
		func(x *bench) { x.p.Forms = make([]api.Form, api.MaxForms+1) },
	}
	for _, n := range far {
		changes = append(changes,
			func(x *bench) { x.m.Frames[0].Func = n },
			func(x *bench) { x.m.Frames[0].PC = n },
			func(x *bench) { x.m.Frames[0].Base = n },
			func(x *bench) { x.m.Handlers = []api.Handler{{Frame: 1, Height: 2, PC: n}} },
			func(x *bench) { x.m.Heap = api.Heap{Base: n, Half: n, Space: n, Top: n} },
			func(x *bench) { x.p.Funcs[0].Locals = 300 + n },
		)
	}
	for _, c := range some {
		for _, change := range changes {
			for space := range 2 {
				x := benchOf(t, half, space, c.i, c.stack...)
				x.m.State = []int{api.Ready, api.Blocked}[space]
				change(x)
				x.none(t)
			}
		}
	}
}

func TestTheLeastThatMayBe(t *testing.T) {
	a, h := empty(api.MinHalf, 1)
	p := api.Program{Funcs: []api.Func{{Code: []api.Ins{ret}}}}
	x := &bench{a: a, p: p, m: api.Machine{Heap: h, Frames: []api.Frame{{Self: 1}}, Result: 1}}
	x.stays(t, api.Broken)
	x.m.Stack = []uint64{9}
	if z := x.one(t, 1); z.M.State != api.Halted || z.M.Result != 9 || len(z.M.Stack) != 0 {
		t.Errorf("it comes to %v", z)
	}
}

// Rule 4

func TestAskedTwice(t *testing.T) {
	for _, c := range rights {
		x := c.bench(t, half, 0)
		y := &bench{a: copyOf(x.a), p: x.p, m: cloned(x.m)}
		first, second := x.one(t, 9), y.one(t, 9)
		if !sameStepped(first, second) || !reflect.DeepEqual(everything(x.a), everything(y.a)) {
			t.Errorf("%v comes to %v, and to %v", c.i, first, second)
		}
	}
}
