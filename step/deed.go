package step

import (
	"slices"

	"stockpot/api"
	"stockpot/data"
	"stockpot/frame"
	"stockpot/object"
	"stockpot/word"
)

// deed is what an instruction, or a reply, is going to do.
// One that makes an object holds none of the machine's words: a collection ahead of it may move what they point to.
type deed interface {
	// words is how many words the objects take that it makes.
	words(s spot) int
	// done is the machine behind it. The spot's State must be Ready, and there must be room for its words.
	done(s spot) api.Machine
}

// idle is what the deeds have in common that make no object.
type idle struct{}

func (idle) words(spot) int { return 0 }

// stays is the deed of which nothing is seen but the State.
type stays struct {
	idle
	state int
}

func (d stays) done(s spot) api.Machine {
	s.m.State = d.state
	return s.m
}

func broken() deed { return stays{state: api.Broken} }
func deep() deed   { return stays{state: api.TooDeep} }

// raises raises a code. What the instruction would take is on the stack even then: a handler may wait as high.
type raises struct {
	idle
	code int64
}

func (d raises) done(s spot) api.Machine { return frame.Throw(s.m, d.code) }

// asks asks the host: all else waits for the reply.
type asks struct {
	idle
	ask api.Ask
}

func (asks) done(s spot) api.Machine { return s.m }

// asked is what the deed asks of the host; false, if it asks nothing.
func asked(d deed) (api.Ask, bool) {
	q, is := d.(asks)
	return q.ask, is
}

// goes takes what the instruction takes, leaves these words, and goes on at the next instruction.
type goes struct {
	idle
	leaves []uint64
}

func (d goes) done(s spot) api.Machine { return s.next(d.leaves...) }

// jumps goes on elsewhere.
type jumps struct {
	idle
	to int
}

func (d jumps) done(s spot) api.Machine {
	m := s.next()
	s.last().PC = d.to
	return m
}

// sets makes a local what is taken.
type sets struct {
	idle
	at int // in the stack
}

func (d sets) done(s spot) api.Machine {
	s.m.Stack[d.at] = s.taken()[0]
	return s.next()
}

// stores makes an object's field another word.
type stores struct {
	idle
	of    uint64
	field int
	w     uint64
}

func (d stores) done(s spot) api.Machine {
	object.Set(s.a, s.m.Heap, d.of, d.field, d.w)
	return s.next(word.Int(0))
}

// enters begins a function, with its closure and its first local as they are taken.
type enters struct {
	idle
	of, base int
	frames   int // how many there are with its own
}

func (d enters) done(s spot) api.Machine {
	closure, v := s.taken()[0], s.taken()[1]
	m := s.next()
	rest := slices.Repeat([]uint64{word.Int(0)}, s.p.Funcs[d.of].Locals-1)
	m.Stack = append(append(m.Stack[:d.base], v), rest...)
	m.Frames = append(m.Frames[:d.frames-1], api.Frame{Func: d.of, Base: d.base, Self: closure})
	return m
}

// returns ends the last frame, and the machine, if it is the only one.
type returns struct{ idle }

func (returns) done(s spot) api.Machine {
	w, m := s.taken()[0], s.m
	m.Stack = m.Stack[:s.last().Base]
	m.Frames = m.Frames[:len(m.Frames)-1]
	if len(m.Frames) == 0 {
		m.State, m.Result = api.Halted, w
		return m
	}
	m.Stack = append(m.Stack, w)
	return m
}

// awaits lays a handler upon the others.
type awaits struct{ idle }

func (awaits) done(s spot) api.Machine {
	m := s.next()
	m.Handlers = append(m.Handlers, api.Handler{Frame: len(m.Frames), Height: len(m.Stack), PC: s.i.A})
	return m
}

// forgets takes the last handler away.
type forgets struct{ idle }

func (forgets) done(s spot) api.Machine {
	m := s.next()
	m.Handlers = m.Handlers[:len(m.Handlers)-1]
	return m
}

// makes leaves an object.
type makes struct{ maker }

func (d makes) words(s spot) int { return object.Words(d.object(s)) }

func (d makes) done(s spot) api.Machine {
	var w uint64
	s.m.Heap, w, _ = object.Put(s.a, s.m.Heap, d.object(s))
	return s.next(w)
}

// receives leaves what a message tells.
type receives struct{ mail api.Message }

func (d receives) words(spot) int { return data.Words(d.mail) }

func (d receives) done(s spot) api.Machine {
	var w uint64
	s.m.Heap, w, _ = data.In(s.a, s.m.Heap, d.mail)
	return s.next(w)
}
