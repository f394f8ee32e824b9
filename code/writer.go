package code

import "stockpot/api"

// writer lays a program that may be as bytes, one behind the other.
type writer struct{ bytes []byte }

// number lays n's lowest bytes, so many, the highest first.
func (w *writer) number(n, width int) {
	for i := width - 1; i >= 0; i-- {
		w.bytes = append(w.bytes, byte(n>>(8*i)))
	}
}

func (w *writer) program(p api.Program) {
	w.number(len(p.Funcs), 1)
	w.number(len(p.Strs), 1)
	w.number(len(p.Forms), 1)
	for _, f := range p.Funcs {
		w.function(f)
	}
	for _, s := range p.Strs {
		w.number(len(s), 1)
		w.bytes = append(w.bytes, s...)
	}
	for _, f := range p.Forms {
		w.form(f)
	}
}

func (w *writer) function(f api.Func) {
	w.number(f.Locals, 1)
	w.number(f.Free, 1)
	w.number(len(f.Code), 2)
	for _, i := range f.Code {
		w.number(i.Op, 1)
		w.number(i.A, int(aWidths[i.Op]))
		w.number(i.B, int(bWidths[i.Op]))
	}
}

func (w *writer) form(f api.Form) {
	w.number(f.Kind, 1)
	w.number(f.A, 1)
	w.number(f.B, 1)
	w.number(len(f.Cons), 1)
	for _, n := range f.Cons {
		w.number(n, 1) // of nothing the lowest byte is 255
	}
}
