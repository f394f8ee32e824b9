package data

import (
	"stockpot/api"
	"stockpot/code"
)

// nothing stands in Cons for a constructor that has nothing.
const nothing = -1

// The tags of what forms take.
const (
	pairTag = 0
	consTag = 1
)

// goodForms says whether a program may have the forms.
func goodForms(f []api.Form) bool {
	// The least program there is: it may be just where its forms may.
	return code.Good(api.Program{Funcs: []api.Func{{Code: []api.Ins{{Op: api.ORet}}}}, Forms: f})
}

// fit is the forms that what the cell has must fit for a whole of it to fit form k, the last one first; false, if no such whole fits.
func fit(f []api.Form, k int, c api.Cell) ([]int, bool) {
	switch form := f[k]; form.Kind {
	case api.FInt:
		return nil, c.Kind == number
	case api.FBool:
		return nil, c == numberOf(0) || c == numberOf(1)
	case api.FUnit:
		return nil, c == numberOf(0)
	case api.FStr:
		return nil, c.Kind == api.Str
	case api.FPair:
		return []int{form.B, form.A}, c == blockOf(pairTag, 2)
	case api.FList:
		if c == numberOf(0) {
			return nil, true
		}
		return []int{k, form.A}, c == blockOf(consTag, 2)
	case api.FData:
		return fitData(form.Cons, c)
	}
	return nil, false
}

// fitData is fit of a form with those constructors.
func fitData(cons []int, c api.Cell) ([]int, bool) {
	if c.Kind == number {
		return nil, c.N >= 0 && c.N < int64(len(cons)) && cons[c.N] == nothing
	}
	if c.Tag >= len(cons) || c != blockOf(c.Tag, 1) || cons[c.Tag] == nothing {
		return nil, false
	}
	return []int{cons[c.Tag]}, true
}
