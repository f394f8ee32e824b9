package code

import "stockpot/api"

// reader takes a program from bytes, one behind the other; it is lost, once they can't be those of a program that may be.
type reader struct {
	rest []byte
	lost bool
}

// take is the next n bytes; none, if there are fewer.
func (r *reader) take(n int) []byte {
	if n > len(r.rest) {
		r.lost = true
		return nil
	}
	b := r.rest[:n]
	r.rest = r.rest[n:]
	return b
}

// number is the next bytes, so many, as a number.
func (r *reader) number(width int) int {
	n := 0
	for _, b := range r.take(width) {
		n = n<<8 | int(b)
	}
	return n
}

// count is how many come, of which there may be so many: told ahead of Good, so that a stranger's bytes cost no more room than a program that may be.
func (r *reader) count(width, most int) int {
	n := r.number(width)
	if n > most {
		r.lost = true
		return 0
	}
	return n
}

// list is the next n of what one takes.
func list[T any](r *reader, n int, one func() T) []T {
	var l []T
	for len(l) < n && !r.lost {
		l = append(l, one())
	}
	return l
}

func (r *reader) program() api.Program {
	funcs := r.count(1, api.MaxFuncs)
	strs := r.count(1, api.MaxStrs)
	forms := r.count(1, api.MaxForms)
	var p api.Program
	p.Funcs = list(r, funcs, r.function)
	p.Strs = list(r, strs, r.text)
	p.Forms = list(r, forms, r.form)
	return p
}

func (r *reader) function() api.Func {
	var f api.Func
	f.Locals = r.number(1)
	f.Free = r.number(1)
	f.Code = list(r, r.count(2, api.MaxCode), r.instruction)
	return f
}

func (r *reader) instruction() api.Ins {
	var i api.Ins
	i.Op = r.number(1)
	if i.Op >= api.Ops {
		r.lost = true
		return api.Ins{}
	}
	i.A = r.number(int(aWidths[i.Op]))
	i.B = r.number(int(bWidths[i.Op]))
	return i
}

func (r *reader) text() string {
	return string(r.take(r.number(1)))
}

func (r *reader) form() api.Form {
	var f api.Form
	f.Kind = r.number(1)
	f.A = r.number(1)
	f.B = r.number(1)
	f.Cons = list(r, r.count(1, mostCons), r.con)
	return f
}

// con is one of a form's Cons, in whose byte 255 stands for nothing.
func (r *reader) con() int {
	n := r.number(1)
	if n == 255 {
		return nothing
	}
	return n
}
