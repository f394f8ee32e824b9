package step

import "stockpot/api"

func (s spot) call() deed { return s.enter(len(s.m.Stack)-s.takes, len(s.m.Frames)+1) }
func (s spot) tail() deed { return s.enter(s.last().Base, len(s.m.Frames)) }

// enter begins the closure's function that is taken: its locals from base on, its frame the last one of so many.
func (s spot) enter(base, frames int) deed {
	o, ok := s.object(s.taken()[0], api.Closure)
	if !ok || o.Tag == 0 || o.Tag >= len(s.p.Funcs) || len(o.Fields) != s.p.Funcs[o.Tag].Free {
		return broken()
	}
	if frames > api.MaxFrames || base+s.p.Funcs[o.Tag].Locals > api.MaxStack {
		return deep()
	}
	return enters{of: o.Tag, base: base, frames: frames}
}

func (s spot) ret() deed  { return returns{} }
func (s spot) jump() deed { return jumps{to: s.i.A} }

func (s spot) jumpZero() deed {
	n, ok := number(s.taken()[0])
	if !ok {
		return broken()
	}
	if n == 0 {
		return s.jump()
	}
	return goes{}
}

func (s spot) try() deed {
	// Where it waits there must be room for the code that is laid there.
	if len(s.m.Handlers) >= api.MaxHandlers || len(s.m.Stack) >= api.MaxStack {
		return deep()
	}
	return awaits{}
}

func (s spot) untry() deed {
	if !s.handled() {
		return broken()
	}
	return forgets{}
}

func (s spot) raise() deed {
	n, ok := number(s.taken()[0])
	if !ok {
		return broken()
	}
	return raises{code: n}
}
