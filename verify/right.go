package verify

import "stockpot/api"

// right is of each instruction of the function its state; false, if the function is not right. The program may be.
func right(p api.Program, f api.Func) ([]state, bool) {
	for _, i := range f.Code {
		if !there(p, f, i) {
			return nil, false
		}
	}
	return statesOf(f.Code)
}

// there says whether there is what the function's instruction speaks of; op.Good holds it against the limits alone.
func there(p api.Program, f api.Func, i api.Ins) bool {
	switch i.Op {
	case api.OLocal, api.OSet:
		return i.A < f.Locals
	case api.OEnv:
		return i.A < f.Free
	case api.OStr:
		return i.A < len(p.Strs)
	case api.OClose:
		return i.A < len(p.Funcs) && i.B == p.Funcs[i.A].Free
	case api.OJump, api.OJumpZ, api.OTry:
		return i.A < len(f.Code)
	case api.OHost: // B is a form of HRecv alone
		return i.A != api.HRecv || i.B < len(p.Forms)
	}
	return true
}
