package frame_test

import (
	"math"
	"math/rand"
	"slices"
	"testing"

	"stockpot/api"
	"stockpot/frame"
)

// P11.2: Throw

// throw expects that the machine behind the throw is what it is to be, and shares nothing with what was handed in.
func throw(t *testing.T, m api.Machine, code int64) api.Machine {
	t.Helper()
	given := handed(m)
	n, want := frame.Throw(given, code), plainThrow(m, code)
	if !same(n, want) {
		t.Errorf("Throw(%v, %d) = %v, want %v", m, code, n, want)
		return want
	}
	apart(t, given, m, n)
	return want
}

func TestThrowWithoutHandlers(t *testing.T) {
	_, m := machine(t, 0)
	m.Handlers = nil
	for _, handlers := range [][]api.Handler{nil, {}} {
		m.Handlers = handlers
		n := frame.Throw(m, 42)
		if want := (api.Machine{Heap: m.Heap, State: api.Raised, Result: 1, Code: 42}); !same(n, want) {
			t.Errorf("Throw(%v, 42) = %v, want %v", m, n, want)
		}
		throw(t, m, 42)
	}
	_, h := empty(half, 1)
	p := program()
	if n := frame.Throw(frame.Start(h, p), -3); !same(n, api.Machine{Heap: h, State: api.Raised, Result: 1, Code: -3}) {
		t.Errorf("Throw of one that was just started = %v", n)
	}
	throw(t, api.Machine{}, 0)
}

func TestThrowToHandlers(t *testing.T) {
	_, m := machine(t, 0)
	stack, frames, handlers := m.Stack, m.Frames, m.Handlers

	n := frame.Throw(m, -2) // to the one at 11, of the last frame
	want := m
	want.Stack = append(slices.Clone(stack[:11]), math.MaxUint64-2)
	want.Frames = []api.Frame{frames[0], frames[1], {Func: 2, PC: 0, Base: 8, Self: 3}}
	want.Handlers = handlers[:2]
	if !same(n, want) {
		t.Fatalf("Throw(%v, -2) = %v, want %v", m, n, want)
	}
	throw(t, m, -2)

	n = throw(t, n, 9) // to the one at 9, of the same frame
	want.Stack = append(slices.Clone(stack[:9]), 19)
	want.Handlers = handlers[:1]
	if !same(n, want) {
		t.Fatalf("the second throw = %v, want %v", n, want)
	}

	n = throw(t, n, 0) // to the one at 3, of the first frame, whose PC was another
	want.Stack = append(slices.Clone(stack[:3]), 1)
	want.Frames = []api.Frame{{Func: 0, PC: 3, Base: 0, Self: 1}}
	want.Handlers = nil
	if !same(n, want) {
		t.Fatalf("the third throw = %v, want %v", n, want)
	}

	n = throw(t, n, 7)
	if want := (api.Machine{Heap: m.Heap, State: api.Raised, Result: 1, Code: 7}); !same(n, want) {
		t.Errorf("the fourth throw = %v, want %v", n, want)
	}
}

func TestThrowToAHandlerOfAFrameAhead(t *testing.T) {
	_, m := machine(t, 0)
	m.Handlers = []api.Handler{{Frame: 1, Height: 4, PC: 1}, {Frame: 2, Height: 6, PC: 0}}
	n := frame.Throw(m, 3)
	want := m
	want.Stack = append(slices.Clone(m.Stack[:6]), 7)
	want.Frames = []api.Frame{m.Frames[0], {Func: 1, PC: 0, Base: 4, Self: m.Frames[1].Self}}
	want.Handlers = m.Handlers[:1]
	if !same(n, want) {
		t.Errorf("Throw(%v, 3) = %v, want %v", m, n, want)
	}
	throw(t, m, 3)
}

func TestThrowLeavesWhatIsNotNamed(t *testing.T) {
	for state := -1; state <= api.Killed+1; state++ {
		for _, handlers := range []int{0, 1, 3} {
			_, m := machine(t, 1)
			m.Handlers, m.State, m.Result, m.Code = m.Handlers[:handlers], state, 13, 17
			n := throw(t, m, 5)
			if n.Result != 13 || n.Heap != m.Heap {
				t.Errorf("Throw(%v, 5) = %v: its Result or its heap is another", m, n)
			}
			if handlers > 0 && (n.State != state || n.Code != 17) {
				t.Errorf("Throw(%v, 5) = %v: its State or its Code is another", m, n)
			}
			if handlers == 0 && (n.State != api.Raised || n.Code != 5) {
				t.Errorf("Throw(%v, 5) = %v: it is not raised", m, n)
			}
		}
	}
}

func TestThrowOfCodes(t *testing.T) {
	for _, x := range []struct {
		code, want int64
		word       uint64
	}{
		{0, 0, 1}, {1, 1, 3}, {-1, -1, math.MaxUint64}, {api.RLarge, -5, math.MaxUint64 - 8},
		{least, least, 1<<63 + 1}, {least + 1, least + 1, 1<<63 + 3}, {most, most, 1<<63 - 1}, {most - 1, most - 1, 1<<63 - 3},
		{least - 1, most, 1<<63 - 1}, {most + 1, least, 1<<63 + 1},
		{math.MaxInt64, -1, math.MaxUint64}, {math.MinInt64, 0, 1},
	} {
		_, m := machine(t, 0)
		n := frame.Throw(m, x.code)
		if len(n.Stack) != 12 || n.Stack[11] != x.word || n.Code != 0 {
			t.Errorf("Throw(%v, %d) = %v, want the word %#x on the stack", m, x.code, n, x.word)
		}
		throw(t, m, x.code)
		m.Handlers = nil
		if n := frame.Throw(m, x.code); n.Code != x.want || n.State != api.Raised || len(n.Stack) != 0 {
			t.Errorf("Throw(%v, %d) = %v, want the code %d", m, x.code, n, x.want)
		}
		throw(t, m, x.code)
	}
}

// broken expects that the machine behind the throw is broken, and that nothing else changed.
func broken(t *testing.T, m api.Machine) {
	t.Helper()
	want := m
	want.State = api.Broken
	if n := frame.Throw(m, 5); !same(n, want) {
		t.Errorf("Throw(%v, 5) = %v, want it broken", m, n)
	}
	throw(t, m, 5)
}

func TestThrowToHandlersThatMayNotBe(t *testing.T) {
	for _, handlers := range []int{1, 3} {
		last := func() (api.Machine, *api.Handler) {
			_, m := machine(t, 0)
			m.Handlers = m.Handlers[3-handlers:]
			return m, &m.Handlers[handlers-1]
		}
		for _, n := range append([]int{0, 4, 5}, far...) {
			m, h := last()
			h.Frame = n
			broken(t, m)
		}
		for _, n := range append([]int{13, 14, api.MaxStack - 1, api.MaxStack}, far...) {
			m, h := last()
			h.Height = n
			broken(t, m)
		}
		for of := 1; of <= 3; of++ { // each of these may be thrown to, though not each may be
			for height := range 13 {
				m, h := last()
				*h = api.Handler{Frame: of, Height: height, PC: 40}
				if n := throw(t, m, 5); n.State != api.Ready || len(n.Frames) != of || len(n.Stack) != height+1 || n.Frames[of-1].PC != 40 {
					t.Errorf("Throw(%v, 5) = %v", m, n)
				}
			}
		}
	}
	for _, m := range []api.Machine{
		{Handlers: []api.Handler{{}}},
		{Handlers: []api.Handler{{Frame: 1}}},
		{Stack: []uint64{3}, Handlers: []api.Handler{{Frame: 1, Height: 1}}},
		{Frames: []api.Frame{{}}, Handlers: []api.Handler{{Frame: 1, Height: 1}}, Code: 8, Result: 6},
		{Frames: []api.Frame{{}}, Handlers: []api.Handler{{Frame: 1}, {}}, State: api.Halted},
	} {
		broken(t, m)
	}
}

func TestThrowAsksTheLastHandlerAlone(t *testing.T) {
	_, m := machine(t, 0)
	m.Handlers[0] = api.Handler{Frame: 40, Height: -1, PC: -1}
	m.Handlers[1] = api.Handler{Frame: 0, Height: 900, PC: 77}
	if n := throw(t, m, 5); n.State != api.Ready || len(n.Handlers) != 2 {
		t.Errorf("Throw(%v, 5) = %v", m, n)
	}
}

func TestThrowWithTheStackAtItsHeight(t *testing.T) {
	a, m := machine(t, 0)
	for height := 9; height <= api.MaxStack-1; height++ {
		m.Stack = slices.Repeat([]uint64{1}, height)
		m.Handlers[2].Height = height
		m.Handlers[1].Height = api.MaxStack - 1
		good(t, a, program(), m)
		n := throw(t, m, 5)
		if len(n.Stack) != height+1 || n.Stack[height] != 11 {
			t.Errorf("Throw(%v, 5) = %v", m, n)
		}
		good(t, a, program(), n)
		if height < api.MaxStack-2 {
			broken(t, n) // the next one waits higher up
		}
	}
}

func TestThrowOfManyMachines(t *testing.T) {
	r := rand.New(rand.NewSource(3))
	var raised, caught, lost int
	for range 400 {
		a, h, words := someHeap(r)
		p := someProgram(r)
		m := someMachine(r, h, p, words)
		for range api.MaxHandlers + 1 {
			n := throw(t, m, r.Int63()-r.Int63())
			switch {
			case n.State == api.Raised:
				raised++
			case n.State == api.Broken:
				lost++
			default:
				caught++
			}
			if m.State == api.Ready || m.State == api.Blocked {
				good(t, a, p, n)
			}
			if len(m.Handlers) == 0 {
				break
			}
			m.Handlers = m.Handlers[:len(m.Handlers)-1]
		}
		spoil(r, &m)
		throw(t, m, r.Int63()-r.Int63())
	}
	if raised < 300 || caught < 300 || lost < 300 {
		t.Errorf("%d were raised, %d caught, %d broken", raised, caught, lost)
	}
}
