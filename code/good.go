package code

import (
	"stockpot/api"
	"stockpot/op"
)

// mostCons is how many constructors a form has at most.
const mostCons = 20

// nothing stands in Cons for a constructor that has nothing.
const nothing = -1

// goodFuncs says whether there is a function to begin with, and each of them may be.
func goodFuncs(l []api.Func) bool {
	if len(l) == 0 {
		return false
	}
	for i, f := range l {
		if i == 0 && f.Free != 0 || i > 0 && f.Locals == 0 || !goodFunc(f) {
			return false
		}
	}
	return true
}

// goodFunc says whether the function may be, as far as it doesn't matter which one it is.
func goodFunc(f api.Func) bool {
	if !below(f.Locals, api.MaxLocals+1) || !below(f.Free, api.MaxFree+1) {
		return false
	}
	if len(f.Code) == 0 || len(f.Code) > api.MaxCode {
		return false
	}
	for _, i := range f.Code {
		if !op.Good(i) {
			return false
		}
	}
	return true
}

// goodStrs says whether each of the texts may be.
func goodStrs(l []string) bool {
	for _, s := range l {
		if len(s) > api.MaxText {
			return false
		}
	}
	return true
}

// goodForms says whether each of the forms may be.
func goodForms(l []api.Form) bool {
	for _, f := range l {
		if !goodForm(f, len(l)) {
			return false
		}
	}
	return true
}

// goodForm says whether the form may be, where there are so many.
func goodForm(f api.Form, forms int) bool {
	a, b := 1, 1 // below 1 is 0 alone
	switch f.Kind {
	case api.FInt, api.FBool, api.FUnit, api.FStr:
	case api.FPair:
		a, b = forms, forms
	case api.FList:
		a = forms
	case api.FData:
		return f.A == 0 && f.B == 0 && goodCons(f.Cons, forms)
	default:
		return false
	}
	return below(f.A, a) && below(f.B, b) && len(f.Cons) == 0
}

// goodCons says whether a form's constructors may be, where there are so many forms.
func goodCons(l []int, forms int) bool {
	if len(l) == 0 || len(l) > mostCons {
		return false
	}
	for _, n := range l {
		if n != nothing && !below(n, forms) {
			return false
		}
	}
	return true
}

// below says whether n is from 0 on, and less than the limit.
func below(n, limit int) bool { return n >= 0 && n < limit }
