package frame

import (
	"stockpot/api"
	"stockpot/word"
)

// goodCounts says whether the machine has no more of anything than it may.
func goodCounts(m api.Machine) bool {
	return len(m.Stack) <= api.MaxStack && len(m.Frames) <= api.MaxFrames && len(m.Handlers) <= api.MaxHandlers
}

// goodFrames says whether each frame is of a function and within it, and the frames' locals lie on the stack, none upon another's.
func goodFrames(p api.Program, m api.Machine) bool {
	least := 0 // where the next frame's locals may begin
	for _, f := range m.Frames {
		if !within(f.Func, 0, len(p.Funcs)-1) || !goodPC(f.PC, p.Funcs[f.Func]) {
			return false
		}
		locals := p.Funcs[f.Func].Locals
		// The locals are taken off the height: added to a Base that is any int they could go beyond one.
		if !within(f.Base, least, len(m.Stack)-locals) {
			return false
		}
		least = f.Base + locals
	}
	return true
}

// goodHandlers says whether each handler may be. The program and the frames must be such as may be.
func goodHandlers(p api.Program, m api.Machine) bool {
	least := 1 // the next one's frame
	for _, h := range m.Handlers {
		if !within(h.Frame, least, len(m.Frames)) {
			return false
		}
		f := m.Frames[h.Frame-1]
		of := p.Funcs[f.Func]
		// There must be room for the code that is laid upon that height.
		if !within(h.Height, f.Base+of.Locals, api.MaxStack-1) || !goodPC(h.PC, of) {
			return false
		}
		least = h.Frame
	}
	return true
}

// goodPC says whether an instruction of the function is there.
func goodPC(pc int, of api.Func) bool { return within(pc, 0, len(of.Code)-1) }

// goodState says whether the State is one, and whether the machine has a Result, a Code, or no frame, only where its State is such.
func goodState(m api.Machine) bool {
	if !within(m.State, api.Ready, api.Killed) {
		return false
	}
	halted, raised, killed := m.State == api.Halted, m.State == api.Raised, m.State == api.Killed
	if m.Result != word.Int(0) && !halted || m.Code != 0 && !raised {
		return false
	}
	return len(m.Frames) > 0 || halted || raised || killed
}

// within says whether n is from the least to the most.
func within(n, least, most int) bool { return least <= n && n <= most }
