package frame_test

import (
	"math"
	"math/rand"
	"reflect"
	"slices"
	"testing"

	"stockpot/api"
	"stockpot/arena"
	"stockpot/code"
	"stockpot/frame"
	"stockpot/object"
	"stockpot/word"
)

// P11.1: Good

// asked is whether the machine may be; it expects that nothing changes.
func asked(t *testing.T, a *arena.Arena, p api.Program, m api.Machine) bool {
	t.Helper()
	before, given := everything(a), handed(m)
	bytes, _ := code.Encode(p)
	ok := frame.Good(a, p, given)
	kept(t, given, m)
	if now := everything(a); !reflect.DeepEqual(now, before) {
		t.Errorf("the arena holds %#x, and held %#x", now, before)
	}
	if now, _ := code.Encode(p); !slices.Equal(now, bytes) {
		t.Errorf("the program is now %v", p)
	}
	return ok
}

// good expects that the machine may be.
func good(t *testing.T, a *arena.Arena, p api.Program, m api.Machine) {
	t.Helper()
	if !asked(t, a, p, m) || !plainGood(a, p, m) {
		t.Errorf("Good(%v) = %t, plainly %t, want true", m, frame.Good(a, p, m), plainGood(a, p, m))
	}
}

// bad expects that the machine may not be.
func bad(t *testing.T, a *arena.Arena, p api.Program, m api.Machine) {
	t.Helper()
	if asked(t, a, p, m) || plainGood(a, p, m) {
		t.Errorf("Good(%v) = %t, plainly %t, want false", m, frame.Good(a, p, m), plainGood(a, p, m))
	}
}

// held expects of the plain machine with the change, in either semispace, that it may be, or may not.
func held(t *testing.T, want bool, change func(m *api.Machine)) {
	t.Helper()
	for space := range 2 {
		a, m := machine(t, space)
		change(&m)
		if want {
			good(t, a, program(), m)
		} else {
			bad(t, a, program(), m)
		}
	}
}

// far are numbers that are nowhere near what may be, some of them near it in their lowest bits.
var far = []int{math.MinInt, math.MinInt + 1, -1 << 62, -1 << 32, -256, -2, -1, 1 << 16, 1 << 32, 1<<32 + 1, 1<<32 + 4, 1 << 62, math.MaxInt - 2, math.MaxInt - 1, math.MaxInt}

func TestGoodAsItIs(t *testing.T) {
	held(t, true, func(m *api.Machine) {})
	held(t, true, func(m *api.Machine) { m.Handlers = nil })
	held(t, true, func(m *api.Machine) { m.Frames, m.Handlers = m.Frames[:1], m.Handlers[:1] })
	a, m := machine(t, 0)
	bad(t, nil, program(), m)
	bad(t, a, program(), api.Machine{})
}

func TestGoodHangsOnTheProgram(t *testing.T) {
	a, m := machine(t, 0)
	for _, change := range []func(p *api.Program){
		func(p *api.Program) { p.Funcs[2].Free = api.MaxFree + 1 },
		func(p *api.Program) { p.Funcs[0].Free = 1 },
		func(p *api.Program) { p.Funcs[2].Code = []api.Ins{{Op: api.ORet, A: 1}} },
		func(p *api.Program) { p.Funcs = append(p.Funcs, api.Func{Locals: 1}) },
		func(p *api.Program) { p.Funcs = append(p.Funcs, api.Func{Code: ret}) },
		func(p *api.Program) { p.Strs = make([]string, api.MaxStrs+1) },
		func(p *api.Program) { p.Forms = []api.Form{{Kind: api.FList, A: 1}} },
		func(p *api.Program) { p.Funcs = p.Funcs[:2] },
		func(p *api.Program) { p.Funcs[0].Code = ret },
	} {
		p := program()
		change(&p)
		bad(t, a, p, m)
	}
	bad(t, a, api.Program{}, m)
	p := program()
	p.Strs, p.Forms = []string{"a"}, []api.Form{{Kind: api.FInt}}
	p.Funcs = append(p.Funcs, api.Func{Locals: 60, Code: ret})
	good(t, a, p, m)
	// of a program that may not be there are no machines, one without frames neither
	m.Frames, m.Handlers, m.State = nil, nil, api.Killed
	good(t, a, p, m)
	bad(t, a, api.Program{}, m)
}

func TestGoodHangsOnTheHeap(t *testing.T) {
	for _, n := range append([]int{0, 1, 2, 4, half, 2 * half, 2*half + ahead}, far...) {
		held(t, false, func(m *api.Machine) { m.Heap.Base = n })
	}
	for _, n := range append([]int{0, 1, api.MinHalf, half - 1, half + 1, 2 * half}, far...) {
		held(t, false, func(m *api.Machine) { m.Heap.Half = n })
	}
	for _, n := range append([]int{2, 3}, far...) {
		held(t, false, func(m *api.Machine) { m.Heap.Space = n })
	}
	for _, n := range append([]int{1, 3, 5, 6, half + 1}, far...) {
		held(t, false, func(m *api.Machine) { m.Heap.Top = n })
	}
	held(t, false, func(m *api.Machine) { m.Heap.Space = 1 - m.Heap.Space }) // litter
	for _, of := range []int{0, 2, 4} {                                      // objects that are not behind Top are none
		held(t, false, func(m *api.Machine) { m.Heap.Top = of })
		held(t, true, func(m *api.Machine) { numbersAlone(m); m.Heap.Top = of })
	}
	for space := range 2 {
		a, m := machine(t, space)
		a.Set(m.Heap.Base, space*half+5, word.Place(space*half+1)) // the block's field: between two objects
		bad(t, a, program(), m)
		numbersAlone(&m)
		bad(t, a, program(), m)
		a.Set(m.Heap.Base, space*half+5, word.Place(space*half+2))
		good(t, a, program(), m)
		if !a.Free(m.Heap.Base) {
			t.Fatal("Free: false")
		}
		bad(t, a, program(), m)
	}
}

// numbersAlone makes all of the machine's words numbers.
func numbersAlone(m *api.Machine) {
	m.Stack = slices.Repeat([]uint64{1}, len(m.Stack))
	for i := range m.Frames {
		m.Frames[i].Self = 1
	}
}

// words calls one with each word that a stack, a Self or a Result may be or not be, and whether it may.
func words(space int, one func(w uint64, may bool)) {
	for _, w := range []uint64{1, 3, 5, 2*half + 1, 1<<33 + 1, 1<<63 - 1, 1<<63 + 1, math.MaxUint64} {
		one(w, true)
	}
	for place := range 2*half + 2*ahead + 10 {
		at := place - space*half
		one(word.Place(place), at == 0 || at == 2 || at == 4)
	}
	for _, w := range []uint64{1<<32 - 2, 1 << 32, 1<<33 - 2, 1 << 33, 1<<33 + 2*half, 1 << 34, 1<<63 + 4, 1 << 63, math.MaxUint64 - 1} {
		one(w, false)
	}
}

func TestGoodAsksEachWord(t *testing.T) {
	for space := range 2 {
		words(space, func(w uint64, may bool) {
			for i := range 12 + 3 + 1 {
				a, m := machine(t, space)
				switch {
				case i < 12:
					m.Stack[i] = w
				case i < 15:
					m.Frames[i-12].Self = w
				default:
					m.State, m.Result = api.Halted, w
				}
				if asked(t, a, program(), m) != may || plainGood(a, program(), m) != may {
					t.Errorf("Good(%v) with the word %#x for root %d: %t", m, w, i, !may)
				}
			}
		})
	}
}

func TestGoodAsksWordsThatNoFrameHas(t *testing.T) {
	for _, state := range []int{api.Halted, api.Raised, api.Killed} {
		for space := range 2 {
			words(space, func(w uint64, may bool) {
				a, m := machine(t, space)
				m.Frames, m.Handlers, m.State, m.Stack = nil, nil, state, []uint64{1, w}
				if asked(t, a, program(), m) != may {
					t.Errorf("Good(%v): %t", m, !may)
				}
			})
		}
	}
}

func TestGoodCountsTheStack(t *testing.T) {
	for n := range api.MaxStack + 60 {
		held(t, n >= 9 && n <= api.MaxStack, func(m *api.Machine) { m.Stack = slices.Repeat([]uint64{1}, n) })
	}
	for _, n := range []int{256, 1 << 16, 70000} {
		held(t, false, func(m *api.Machine) { m.Stack = slices.Repeat([]uint64{1}, n) })
	}
	for _, n := range []int{0, 1, api.MaxStack, api.MaxStack + 1} { // nor may it be longer without frames
		held(t, n <= api.MaxStack, func(m *api.Machine) {
			m.Frames, m.Handlers, m.State, m.Stack = nil, nil, api.Killed, slices.Repeat([]uint64{1}, n)
		})
	}
}

func TestGoodCountsFrames(t *testing.T) {
	thin := api.Program{Funcs: []api.Func{{Locals: 0, Code: ret}, {Locals: 1, Code: ret}}}
	a, h := empty(half, 0)
	for n := 1; n <= api.MaxFrames+10; n++ {
		for of := range 2 { // frames that take none of the stack, and one of it each
			m := frame.Start(h, thin)
			m.Frames, m.Stack = nil, slices.Repeat([]uint64{1}, of*n)
			for i := range n {
				m.Frames = append(m.Frames, api.Frame{Func: of, Base: of * i, Self: 1})
			}
			if want := n <= api.MaxFrames; asked(t, a, thin, m) != want || plainGood(a, thin, m) != want {
				t.Errorf("Good with %d frames: %t", n, !want)
			}
		}
	}
}

func TestGoodCountsHandlers(t *testing.T) {
	for n := range api.MaxHandlers + 10 {
		for of := 1; of <= 3; of++ {
			held(t, n <= api.MaxHandlers, func(m *api.Machine) {
				m.Handlers = slices.Repeat([]api.Handler{{Frame: of, Height: 9}}, n)
			})
		}
	}
}

func TestGoodFuncs(t *testing.T) {
	for i := range 3 {
		for _, n := range append([]int{3, 4, api.MaxFuncs}, far...) {
			held(t, false, func(m *api.Machine) { m.Frames[i].Func, m.Frames[i].PC, m.Handlers = n, 0, nil })
		}
		for n := range 3 { // in place of another one, with locals that don't lie elsewhere
			held(t, true, func(m *api.Machine) {
				m.Handlers = nil
				m.Frames[i].Func, m.Frames[i].PC = n, 0
				m.Stack = slices.Repeat([]uint64{1}, 12)
			})
		}
	}
}

func TestGoodPCs(t *testing.T) {
	for i, has := range []int{4, 2, 1} {
		for pc := range has + 3 {
			held(t, pc < has, func(m *api.Machine) { m.Frames[i].PC = pc })
		}
		for _, pc := range far {
			held(t, false, func(m *api.Machine) { m.Frames[i].PC = pc })
		}
	}
	held(t, false, func(m *api.Machine) { m.Frames[1].PC, m.Frames[1].Func = 0, -1 })
}

func TestGoodBases(t *testing.T) {
	for base := -5; base <= 20; base++ { // without the handlers, whose heights must not be below the locals
		held(t, base >= 0 && base <= 1, func(m *api.Machine) { m.Frames[0].Base, m.Handlers = base, nil })
		held(t, base >= 3 && base <= 6, func(m *api.Machine) { m.Frames[1].Base, m.Handlers = base, nil })
		held(t, base >= 6 && base <= 11, func(m *api.Machine) { m.Frames[2].Base, m.Handlers = base, nil })
		held(t, base >= 0 && base <= 9, func(m *api.Machine) {
			m.Frames, m.Handlers = m.Frames[:1], nil
			m.Frames[0].Base = base
		})
	}
	for i := range 3 {
		for _, base := range far {
			held(t, false, func(m *api.Machine) { m.Frames[i].Base, m.Handlers = base, nil })
			held(t, false, func(m *api.Machine) {
				for j := i; j < 3; j++ {
					m.Frames[j].Base = base
				}
				m.Handlers = nil
			})
		}
		for less := range 8 { // with its locals it would go beyond an int, and be below the height again
			held(t, false, func(m *api.Machine) { m.Frames[i].Base, m.Handlers = math.MaxInt-less, nil })
		}
	}
	held(t, true, func(m *api.Machine) { // one right behind another, the last one up to the stack's height
		m.Frames[0].Base, m.Frames[1].Base, m.Frames[2].Base = 6, 9, 11
		m.Handlers = nil
	})
	held(t, false, func(m *api.Machine) {
		m.Frames[0].Base, m.Frames[1].Base, m.Frames[2].Base = 6, 8, 11
		m.Handlers = nil
	})
}

func TestGoodBasesOfAFunctionWithoutLocals(t *testing.T) {
	p := program()
	p.Funcs[0].Locals = 0
	for _, height := range []int{0, 1, 5} {
		for base := -2; base <= 8; base++ {
			a, h := empty(half, 0)
			m := frame.Start(h, p)
			m.Stack = slices.Repeat([]uint64{1}, height)
			m.Frames[0].Base = base
			if want := base >= 0 && base <= height; asked(t, a, p, m) != want {
				t.Errorf("Good(%v): %t", m, !want)
			}
			m.Frames = append(m.Frames, m.Frames[0], m.Frames[0])
			if want := base >= 0 && base <= height; asked(t, a, p, m) != want {
				t.Errorf("Good(%v) of three frames: %t", m, !want)
			}
		}
	}
}

func TestGoodFramesOfHandlers(t *testing.T) {
	set := func(frames ...int) func(m *api.Machine) {
		return func(m *api.Machine) {
			m.Handlers = nil
			for _, n := range frames {
				m.Handlers = append(m.Handlers, api.Handler{Frame: n, Height: 9})
			}
		}
	}
	for a := -1; a <= 5; a++ {
		held(t, a >= 1 && a <= 3, set(a))
		for b := -1; b <= 5; b++ {
			held(t, a >= 1 && b >= a && b <= 3, set(a, b))
			for c := -1; c <= 5; c++ {
				held(t, a >= 1 && b >= a && c >= b && c <= 3, set(a, b, c))
			}
		}
	}
	for _, n := range append([]int{60, 61, 200}, far...) {
		held(t, false, set(n))
		held(t, false, set(1, n))
		held(t, false, set(n, 3))
	}
	held(t, false, func(m *api.Machine) { m.Frames = m.Frames[:2] })
	held(t, false, func(m *api.Machine) { m.Frames, m.State = nil, api.Killed })
}

func TestGoodHeightsOfHandlers(t *testing.T) {
	lowest := []int{3, 6, 9} // each frame's Base with its function's locals
	for i, low := range lowest {
		for height := -3; height <= api.MaxStack+3; height++ {
			held(t, height >= low && height <= api.MaxStack-1, func(m *api.Machine) { m.Handlers = []api.Handler{{Frame: i + 1, Height: height}} })
		}
		for _, height := range far {
			held(t, false, func(m *api.Machine) { m.Handlers = []api.Handler{{Frame: i + 1, Height: height}} })
		}
	}
	held(t, true, func(m *api.Machine) { m.Handlers[1].Height, m.Handlers[2].Height = 199, 9 }) // need not rise
	held(t, true, func(m *api.Machine) { m.Handlers[0].Height = 199 })                          // nor be below the next frame's locals
	held(t, true, func(m *api.Machine) { m.Stack = m.Stack[:9] })
	held(t, false, func(m *api.Machine) { m.Handlers[1].Height = 8 })
	for base := 3; base <= 6; base++ { // a frame that stands higher needs a higher one
		for height := range 12 {
			held(t, height >= base+2, func(m *api.Machine) {
				m.Frames[1].Base = base
				m.Handlers = []api.Handler{{Frame: 2, Height: height}}
			})
		}
	}
}

func TestGoodPCsOfHandlers(t *testing.T) {
	for i, has := range []int{4, 2, 1} {
		for pc := -2; pc <= 5; pc++ {
			held(t, pc >= 0 && pc < has, func(m *api.Machine) { m.Handlers = []api.Handler{{Frame: i + 1, Height: 9, PC: pc}} })
		}
		for _, pc := range append([]int{api.MaxCode - 1, api.MaxCode}, far...) {
			held(t, false, func(m *api.Machine) { m.Handlers = []api.Handler{{Frame: i + 1, Height: 9, PC: pc}} })
		}
	}
	for i, has := range []int{4, 1, 1} {
		held(t, true, func(m *api.Machine) { m.Handlers[i].PC = has - 1 })
		held(t, false, func(m *api.Machine) { m.Handlers[i].PC = has })
	}
}

func TestGoodStates(t *testing.T) {
	end := func(state int) bool { return state == api.Halted || state == api.Raised || state == api.Killed }
	states := slices.Clone(far)
	for state := -3; state <= api.Killed+5; state++ {
		states = append(states, state)
	}
	for _, state := range states {
		is := state >= 0 && state <= api.Killed
		held(t, is, func(m *api.Machine) { m.State = state })
		for _, result := range []uint64{3, math.MaxUint64, 1<<63 + 1} {
			held(t, state == api.Halted, func(m *api.Machine) { m.State, m.Result = state, result })
		}
		held(t, state == api.Halted, func(m *api.Machine) { m.State, m.Result = state, m.Stack[4] })
		held(t, false, func(m *api.Machine) { m.State, m.Result = state, 2*half+2*api.MaxHalf })
		held(t, false, func(m *api.Machine) { m.State, m.Result = state, word.Place(m.Heap.Space*half+1) })
		for _, code := range []int64{1, -1, -5, least, most, least - 1, most + 1, math.MinInt64, math.MaxInt64} {
			held(t, state == api.Raised, func(m *api.Machine) { m.State, m.Code = state, code })
			held(t, false, func(m *api.Machine) { m.State, m.Code, m.Result = state, code, 3 })
		}
		held(t, is && end(state), func(m *api.Machine) { m.State, m.Frames, m.Handlers = state, nil, nil })
		held(t, is && end(state), func(m *api.Machine) {
			m.State, m.Frames, m.Handlers, m.Stack = state, []api.Frame{}, []api.Handler{}, nil
		})
		held(t, false, func(m *api.Machine) { m.State, m.Frames = state, nil })
	}
	held(t, false, func(m *api.Machine) { m.State, m.Result = api.Halted, 0x7fffffff0 })
	for space := range 2 { // a place's word is no number 0's, whatever stands there
		a, m := machine(t, space)
		m.Result = m.Stack[4]
		bad(t, a, program(), m)
	}
}

func TestGoodOfTheGreatestMachine(t *testing.T) {
	p := api.Program{Funcs: []api.Func{{Code: ret}}}
	for len(p.Funcs) < api.MaxFuncs {
		p.Funcs = append(p.Funcs, api.Func{Locals: 3, Code: ret})
	}
	a, h := empty(api.MaxHalf, 1)
	for h.Top < api.MaxHalf {
		h, _, _ = object.Put(a, h, api.Object{Kind: api.Array})
	}
	m := api.Machine{Heap: h, Result: 1}
	for i := range api.MaxStack {
		m.Stack = append(m.Stack, word.Place(api.MaxHalf+i))
	}
	for i := range api.MaxFrames {
		m.Frames = append(m.Frames, api.Frame{Func: i, Base: 3 * i, Self: word.Place(2*api.MaxHalf - 1 - i)})
	}
	for i := range api.MaxHandlers {
		m.Handlers = append(m.Handlers, api.Handler{Frame: 2*i + 1, Height: api.MaxStack - 1})
	}
	good(t, a, p, m)
	rootsAndBack(t, m)
	m.Frames[59].Self = word.Place(2 * api.MaxHalf)
	bad(t, a, p, m)
}

func TestGoodOfManyMachines(t *testing.T) {
	r := rand.New(rand.NewSource(4))
	may, mayNot := 0, 0
	for range 1500 {
		a, h, l := someHeap(r)
		p := someProgram(r)
		m := someMachine(r, h, p, l)
		good(t, a, p, m)
		for range 6 {
			n := m
			n.Stack, n.Frames, n.Handlers = slices.Clone(m.Stack), slices.Clone(m.Frames), slices.Clone(m.Handlers)
			spoil(r, &n)
			want := plainGood(a, p, n)
			if asked(t, a, p, n) != want {
				t.Errorf("Good(%v) of %v in %v: %t", n, p, a.Regions(), !want)
			}
			if want {
				may++
			} else {
				mayNot++
			}
		}
	}
	if may < 1000 || mayNot < 1000 {
		t.Errorf("%d may be, %d may not", may, mayNot)
	}
}
