package frame_test

import (
	"math/big"
	"math/rand"
	"slices"

	"stockpot/api"
	"stockpot/arena"
	"stockpot/code"
	"stockpot/frame"
	"stockpot/object"
	"stockpot/word"
)

// from says whether n is from the least to base and more, all of them counted without end.
func from(n, least, base, more int) bool {
	most := new(big.Int).Add(big.NewInt(int64(base)), big.NewInt(int64(more)))
	return n >= least && big.NewInt(int64(n)).Cmp(most) <= 0
}

// plainGood says whether the machine may be, as the document's words follow one another.
func plainGood(a *arena.Arena, p api.Program, m api.Machine) bool {
	if !code.Good(p) || !object.Good(a, m.Heap) {
		return false
	}
	words := slices.Clone(m.Stack)
	for _, f := range m.Frames {
		words = append(words, f.Self)
	}
	words = append(words, m.Result)
	for _, w := range words {
		if _, ok := object.Get(a, m.Heap, w); w%2 == 0 && !ok {
			return false
		}
	}
	if len(m.Stack) > 200 || len(m.Frames) > 60 || len(m.Handlers) > 30 {
		return false
	}
	for i := range m.Frames {
		if !plainFrame(p, m, i) {
			return false
		}
	}
	for i := range m.Handlers {
		if !plainHandler(p, m, i) {
			return false
		}
	}
	if m.State < 0 || m.State > 8 {
		return false
	}
	const halted, raised, killed = 2, 3, 8
	if m.Result != 1 && m.State != halted || m.Code != 0 && m.State != raised {
		return false
	}
	return len(m.Frames) > 0 || m.State == halted || m.State == raised || m.State == killed
}

// plainFrame says whether frame i may be, where those ahead of it may.
func plainFrame(p api.Program, m api.Machine, i int) bool {
	f := m.Frames[i]
	if f.Func < 0 || f.Func >= len(p.Funcs) || f.PC < 0 || f.PC >= len(p.Funcs[f.Func].Code) || f.Base < 0 {
		return false
	}
	if i > 0 {
		if g := m.Frames[i-1]; from(f.Base, 0, g.Base, p.Funcs[g.Func].Locals-1) {
			return false
		}
	}
	return from(f.Base, 0, len(m.Stack), -p.Funcs[f.Func].Locals)
}

// plainHandler says whether handler i may be, where the frames and the handlers ahead of it may.
func plainHandler(p api.Program, m api.Machine, i int) bool {
	h := m.Handlers[i]
	if h.Frame < 1 || h.Frame > len(m.Frames) || i > 0 && h.Frame < m.Handlers[i-1].Frame {
		return false
	}
	f := m.Frames[h.Frame-1]
	of := p.Funcs[f.Func]
	return !from(h.Height, -1<<63, f.Base, of.Locals-1) && h.Height <= 199 && h.PC >= 0 && h.PC < len(of.Code)
}

// plainRoots is the words of the machine that may point.
func plainRoots(m api.Machine) []uint64 {
	var l []uint64
	l = append(l, m.Stack...)
	for i := 0; i < len(m.Frames); i++ {
		l = append(l, m.Frames[i].Self)
	}
	l = append(l, m.Result)
	return l
}

// plainThrow is the machine behind a throw, built anew.
func plainThrow(m api.Machine, code int64) api.Machine {
	for code >= 1<<62 {
		code -= 1 << 62
		code -= 1 << 62
	}
	for code < -1<<62 {
		code += 1 << 62
		code += 1 << 62
	}
	if len(m.Handlers) == 0 {
		return api.Machine{Heap: m.Heap, State: 3, Result: m.Result, Code: code}
	}
	h := m.Handlers[len(m.Handlers)-1]
	n := m
	if h.Frame < 1 || h.Frame > len(m.Frames) || h.Height < 0 || h.Height > len(m.Stack) {
		n.State = 7
		return n
	}
	n.Stack, n.Frames, n.Handlers = nil, nil, nil
	for i := 0; i < h.Height; i++ {
		n.Stack = append(n.Stack, m.Stack[i])
	}
	n.Stack = append(n.Stack, uint64(code)*2+1)
	for i := 1; i <= h.Frame; i++ {
		f := m.Frames[i-1]
		if i == h.Frame {
			f.PC = h.PC
		}
		n.Frames = append(n.Frames, f)
	}
	for i := 0; i < len(m.Handlers)-1; i++ {
		n.Handlers = append(n.Handlers, m.Handlers[i])
	}
	return n
}

// some is the number of things a random machine has: often none, often the most, else any.
func some(r *rand.Rand, most int) int {
	switch r.Intn(6) {
	case 0:
		return 0
	case 1:
		return most
	}
	return r.Intn(most + 1)
}

// someProgram is a program that may be, of functions with any number of locals and short code.
func someProgram(r *rand.Rand) api.Program {
	p := api.Program{Funcs: make([]api.Func, 1+r.Intn(6))}
	for i := range p.Funcs {
		most := []int{1, 3, 10, api.MaxLocals}[r.Intn(4)]
		p.Funcs[i].Locals = 1 + r.Intn(most)
		if i == 0 {
			p.Funcs[i].Locals = r.Intn(most + 1)
		} else {
			p.Funcs[i].Free = r.Intn(3)
		}
		for range 1 + r.Intn(5) {
			p.Funcs[i].Code = append(p.Funcs[i].Code, api.Ins{Op: api.ORet})
		}
	}
	return p
}

// someHeap is an arena with a heap of some objects, litter in all other words, and words that may be roots: each object's, and some numbers'.
func someHeap(r *rand.Rand) (*arena.Arena, api.Heap, []uint64) {
	half := api.MinHalf + r.Intn(60)
	a, h := empty(half, r.Intn(2))
	words := []uint64{1, 3, 1<<64 - 1, 1<<63 - 1, 1<<63 + 1, word.Int(r.Int63())}
	for range r.Intn(12) {
		o := api.Object{Kind: api.Array}
		switch r.Intn(4) {
		case 0:
			o = api.Object{Kind: api.Str, Text: "stockpots and pans"[:r.Intn(19)]}
		case 1:
			o = api.Object{Kind: api.Block, Tag: r.Intn(256), Fields: []uint64{words[r.Intn(len(words))], 5}}
		case 2:
			o = api.Object{Kind: api.Closure, Tag: 1, Fields: []uint64{words[r.Intn(len(words))]}}
		}
		if n, w, ok := object.Put(a, h, o); ok {
			h, words = n, append(words, w)
		}
	}
	return a, h, words
}

// someMachine is a machine that may be, with that heap and that program, its words out of those.
func someMachine(r *rand.Rand, h api.Heap, p api.Program, words []uint64) api.Machine {
	one := func() uint64 { return words[r.Intn(len(words))] }
	m := frame.Start(h, p)
	m.Frames, m.Stack = nil, nil
	height := 0
	for range some(r, api.MaxFrames) {
		f := api.Frame{Func: r.Intn(len(p.Funcs)), Base: height + r.Intn(3)*r.Intn(2), Self: one()}
		of := p.Funcs[f.Func]
		if f.Base+of.Locals > api.MaxStack {
			break
		}
		f.PC = r.Intn(len(of.Code))
		m.Frames = append(m.Frames, f)
		height = f.Base + of.Locals
	}
	for range height + some(r, api.MaxStack-height) {
		m.Stack = append(m.Stack, one())
	}
	m.Handlers = someHandlers(r, p, m)
	states := []int{api.Halted, api.Raised, api.Killed}
	if len(m.Frames) > 0 {
		states = append(states, api.Ready, api.Ready, api.Ready, api.Blocked, api.NoFuel, api.NoWords, api.TooDeep, api.Broken)
	}
	switch m.State = states[r.Intn(len(states))]; m.State {
	case api.Halted:
		m.Result = one()
	case api.Raised:
		m.Code = r.Int63() - r.Int63()
	}
	return m
}

// someHandlers are handlers that the machine may have.
func someHandlers(r *rand.Rand, p api.Program, m api.Machine) []api.Handler {
	var l []api.Handler
	if len(m.Frames) == 0 {
		return nil
	}
	least := 1 + r.Intn(len(m.Frames))
	for range some(r, api.MaxHandlers) {
		if least += r.Intn(2) * r.Intn(4); least > len(m.Frames) {
			least = len(m.Frames)
		}
		f := m.Frames[least-1]
		of := p.Funcs[f.Func]
		lowest := f.Base + of.Locals
		if lowest > api.MaxStack-1 {
			continue
		}
		l = append(l, api.Handler{Frame: least, Height: lowest + some(r, api.MaxStack-1-lowest), PC: r.Intn(len(of.Code))})
	}
	return l
}

// spoil changes one of the machine's numbers or words, or how many there are of something, so that it may be a machine that may not be.
func spoil(r *rand.Rand, m *api.Machine) {
	numbers := []*int{&m.State, &m.Heap.Base, &m.Heap.Half, &m.Heap.Space, &m.Heap.Top}
	for i := range m.Frames {
		f := &m.Frames[i]
		numbers = append(numbers, &f.Func, &f.PC, &f.Base)
	}
	for i := range m.Handlers {
		h := &m.Handlers[i]
		numbers = append(numbers, &h.Frame, &h.Height, &h.PC)
	}
	words := []*uint64{&m.Result}
	for i := range m.Stack {
		words = append(words, &m.Stack[i])
	}
	for i := range m.Frames {
		words = append(words, &m.Frames[i].Self)
	}
	switch r.Intn(12) {
	case 0:
		*words[r.Intn(len(words))] = []uint64{word.Place(r.Intn(150)), 1 << 33, 3, 1<<64 - 2}[r.Intn(4)]
	case 1:
		m.Code = r.Int63n(3) - 1
	case 2:
		m.Stack = m.Stack[:r.Intn(len(m.Stack)+1)]
	case 3:
		m.Frames = m.Frames[:r.Intn(len(m.Frames)+1)]
	case 4:
		m.Stack = append(m.Stack, slices.Repeat([]uint64{1}, r.Intn(210))...)
	case 5:
		if len(m.Handlers) > 1 {
			i := r.Intn(len(m.Handlers) - 1)
			m.Handlers[i], m.Handlers[i+1] = m.Handlers[i+1], m.Handlers[i]
		}
	case 6:
		if len(m.Frames) > 1 {
			i := r.Intn(len(m.Frames) - 1)
			m.Frames[i], m.Frames[i+1] = m.Frames[i+1], m.Frames[i]
		}
	case 7:
		m.State = r.Intn(11) - 1
	default:
		n := numbers[r.Intn(len(numbers))]
		*n += []int{-1, 1, -2, 2, -60, 60, 1 << 32, -1 << 63, 1<<63 - 1}[r.Intn(9)]
	}
}
