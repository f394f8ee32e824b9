package step

import (
	"slices"

	"stockpot/api"
	"stockpot/arena"
	"stockpot/frame"
	"stockpot/gc"
	"stockpot/object"
	"stockpot/op"
	"stockpot/word"
)

// spot is a machine that may be, and can go on, at its instruction.
type spot struct {
	a             *arena.Arena
	p             api.Program
	m             api.Machine // its lists are the spot's own, and may be changed
	of            api.Func    // the last frame's
	i             api.Ins
	takes, leaves int
}

// at is the machine at its instruction; false, if it may not be, or can't go on.
func at(a *arena.Arena, p api.Program, m api.Machine) (spot, bool) {
	if !frame.Good(a, p, m) || m.State != api.Ready && m.State != api.Blocked {
		return spot{}, false
	}
	m.Stack, m.Frames, m.Handlers = slices.Clone(m.Stack), slices.Clone(m.Frames), slices.Clone(m.Handlers)
	s := spot{a: a, p: p, m: m}
	s.of = p.Funcs[s.last().Func]
	s.i = s.of.Code[s.last().PC]
	s.takes, s.leaves, _ = op.Effect(s.i)
	return s, true
}

// last is the frame that goes on.
func (s spot) last() *api.Frame { return &s.m.Frames[len(s.m.Frames)-1] }

// taken is the words that the instruction takes. They must be there.
func (s spot) taken() []uint64 { return s.m.Stack[len(s.m.Stack)-s.takes:] }

// object is that to which w points; false, if it is none of that kind.
func (s spot) object(w uint64, kind int) (api.Object, bool) {
	o, _ := object.Get(s.a, s.m.Heap, w)
	return o, o.Kind == kind
}

// number is that of a number's word; false of another one.
func number(w uint64) (int64, bool) { return word.Value(w), word.IsInt(w) }

// lacks says whether the instruction is broken whatever words it would take.
func (s spot) lacks() bool {
	least := s.last().Base + s.of.Locals // a frame's locals are not taken
	end := s.last().PC == len(s.of.Code)-1 && !op.Ends(s.i)
	return len(s.m.Stack)-least < s.takes || end || !s.there()
}

// there says whether there is what the instruction speaks of, and no handler waits that it would leave without its frame.
func (s spot) there() bool {
	switch s.i.Op {
	case api.OLocal, api.OSet:
		return s.i.A < s.of.Locals
	case api.OStr:
		return s.i.A < len(s.p.Strs)
	case api.OClose:
		return s.i.A < len(s.p.Funcs) && s.i.B == s.p.Funcs[s.i.A].Free
	case api.OHost: // B is a form of HRecv alone
		return s.i.A != api.HRecv || s.i.B < len(s.p.Forms)
	case api.OJump, api.OJumpZ, api.OTry:
		return s.i.A < len(s.of.Code)
	case api.ORet, api.OTail:
		return !s.handled()
	}
	return true
}

// handled says whether a handler is of the last frame. Handlers stand by their frames: it would be the last one.
func (s spot) handled() bool {
	n := len(s.m.Handlers)
	return n > 0 && s.m.Handlers[n-1].Frame == len(s.m.Frames)
}

// full says whether the stack would be too high with what the instruction leaves.
func (s spot) full() bool { return len(s.m.Stack)-s.takes+s.leaves > api.MaxStack }

// cost is what the deed costs. Nothing changes: that there is too little fuel for it must be told ahead of a collection.
func (s spot) cost(d deed) int {
	n, h := d.words(s), s.m.Heap
	if n <= h.Half-h.Top {
		return 1 + n
	}
	live, _ := gc.Live(s.a, h, frame.Roots(s.m))
	if n <= h.Half-live {
		return 1 + n
	}
	return 1
}

// behind is the machine behind the deed.
func (s spot) behind(d deed) api.Machine {
	s.m.State = api.Ready
	if n := d.words(s); n > 0 {
		h, roots, ok := gc.Room(s.a, s.m.Heap, frame.Roots(s.m), n)
		s.m, _ = frame.WithRoots(s.m, h, roots)
		if !ok {
			d = stays{state: api.NoWords}
		}
	}
	return d.done(s)
}

// next is the machine at the next instruction, with these words in the place of those that were taken.
func (s spot) next(words ...uint64) api.Machine {
	s.last().PC++
	s.m.Stack = append(s.m.Stack[:len(s.m.Stack)-s.takes], words...)
	return s.m
}
