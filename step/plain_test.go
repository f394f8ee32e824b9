package step_test

import (
	"math/big"
	"slices"
	"strings"

	"stockpot/api"
	"stockpot/arena"
	"stockpot/data"
	"stockpot/frame"
	"stockpot/gc"
	"stockpot/object"
	"stockpot/op"
)

// plain is an instruction, or a reply, as the document's words follow one another.
// It changes the arena and the lists of its machine: both must be its own.
type plain struct {
	a    *arena.Arena
	p    api.Program
	was  api.Machine
	m    api.Machine
	cost int
	ask  api.Ask
	asks bool
}

// over is what ends a telling ahead of its end.
type over struct{}

// plainly tells what comes of the machine.
func plainly(a *arena.Arena, p api.Program, m api.Machine, tell func(x *plain)) (x plain) {
	x = plain{a: a, p: p, was: cloned(m), m: cloned(m), cost: 1}
	x.m.State = api.Ready
	defer func() {
		if r := recover(); r != nil && r != any(over{}) {
			panic(r)
		}
	}()
	tell(&x)
	return
}

// mayGoOn says whether One, Answer and Cost tell anything of the machine.
func mayGoOn(a *arena.Arena, p api.Program, m api.Machine) bool {
	return frame.Good(a, p, m) && (m.State == 0 || m.State == 1)
}

// plainCost is what Cost is to tell.
func plainCost(a *arena.Arena, p api.Program, m api.Machine) (int, bool) {
	if !mayGoOn(a, p, m) {
		return 0, false
	}
	return plainly(copyOf(a), p, m, (*plain).instruction).cost, true
}

// plainOne is what One is to tell, and what it is to do to the arena.
func plainOne(a *arena.Arena, p api.Program, m api.Machine, fuel int) (api.Stepped, bool) {
	cost, ok := plainCost(a, p, m)
	if !ok {
		return api.Stepped{}, false
	}
	if cost > fuel {
		return api.Stepped{M: m, Short: true}, true
	}
	x := plainly(a, p, m, (*plain).instruction)
	if x.asks {
		return api.Stepped{M: m, Used: 1, Asks: true, Ask: x.ask}, true
	}
	return api.Stepped{M: x.m, Used: cost}, true
}

// plainAnswer is what Answer is to tell, and what it is to do to the arena.
func plainAnswer(a *arena.Arena, p api.Program, m api.Machine, r api.Reply) (api.Machine, bool) {
	if !mayGoOn(a, p, m) {
		return api.Machine{}, false
	}
	ask := plainly(copyOf(a), p, m, (*plain).instruction)
	if !ask.asks {
		return api.Machine{}, false
	}
	return plainly(a, p, m, func(x *plain) { x.reply(ask.ask, r) }).m, true
}

// stays ends the telling with that State, and nothing else has changed.
func (x *plain) stays(state int) {
	x.m = cloned(x.was)
	x.m.State = state
	panic(over{})
}

func (x *plain) broken() { x.stays(api.Broken) }
func (x *plain) deep()   { x.stays(api.TooDeep) }

func (x *plain) raises(code int64) {
	m := cloned(x.was)
	m.State = api.Ready
	x.m = frame.Throw(m, code)
	panic(over{})
}

func (x *plain) frame() *api.Frame { return &x.m.Frames[len(x.m.Frames)-1] }
func (x *plain) of() api.Func      { return x.p.Funcs[x.frame().Func] }

// take is the last n words of the stack, which must stand above the frame's locals.
func (x *plain) take(n int) []uint64 {
	if len(x.m.Stack)-n < x.frame().Base+x.of().Locals {
		x.broken()
	}
	return slices.Clone(x.m.Stack[len(x.m.Stack)-n:])
}

// leave lays these words in the place of the last n, and goes on with the instruction behind.
func (x *plain) leave(n int, words ...uint64) {
	height := len(x.m.Stack) - n
	if height+len(words) > 200 {
		x.deep()
	}
	x.m.Stack = append(slices.Clone(x.m.Stack[:height]), words...)
	x.frame().PC++
}

func (x *plain) leaveBit(n int, holds bool) {
	if holds {
		x.leave(n, 3)
	} else {
		x.leave(n, 1)
	}
}

// room is for so many words: the machine is behind a collection, if there has to be one.
func (x *plain) room(n int) {
	if x.m.Heap.Half-x.m.Heap.Top >= n {
		return
	}
	roots := slices.Clone(x.m.Stack)
	for _, f := range x.m.Frames {
		roots = append(roots, f.Self)
	}
	roots = append(roots, x.m.Result)
	h, roots, _ := gc.Collect(x.a, x.m.Heap, roots)
	x.m.Heap, x.m.Result = h, roots[len(roots)-1]
	for i := range x.m.Stack {
		x.m.Stack[i] = roots[i]
	}
	for i := range x.m.Frames {
		x.m.Frames[i].Self = roots[len(x.m.Stack)+i]
	}
	if h.Half-h.Top < n {
		x.m.State = api.NoWords
		panic(over{})
	}
}

// lay leaves an object in the place of the last n words; the object is told behind the collection.
func (x *plain) lay(n, words int, o func(t []uint64) api.Object) {
	if len(x.m.Stack)-n+1 > 200 {
		x.deep()
	}
	x.room(words)
	h, w, ok := object.Put(x.a, x.m.Heap, o(x.take(n)))
	if !ok || h.Top != x.m.Heap.Top+words {
		panic("no room for the object")
	}
	x.m.Heap = h
	x.leave(n, w)
	x.cost = 1 + words
}

func (x *plain) layText(n int, s string) {
	x.lay(n, 1+(len(s)+7)/8, func([]uint64) api.Object { return api.Object{Kind: 2, Text: s} })
}

// object is that of the kind at w.
func (x *plain) object(w uint64, kind int) api.Object {
	o, ok := object.Get(x.a, x.m.Heap, w)
	if !ok || o.Kind != kind {
		x.broken()
	}
	return o
}

// number is that of w.
func (x *plain) number(w uint64) int64 {
	if w%2 == 0 {
		x.broken()
	}
	return int64(w) >> 1
}

// instruction is the one at the last frame's PC.
func (x *plain) instruction() {
	i := x.of().Code[x.frame().PC]
	name := op.Name(i.Op)
	if x.frame().PC+1 == len(x.of().Code) && name != "tail" && name != "ret" && name != "jump" && name != "raise" {
		x.broken()
	}
	switch name {
	case "call", "tail", "ret", "jump", "jumpz", "try", "untry", "raise", "host":
		x.flow(name, i)
	case "int", "str", "local", "set", "env", "self", "close", "pop", "isint", "istag":
		x.plainer(name, i)
	case "field", "store", "block", "array", "get", "put", "len":
		x.heap(name, i)
	case "cat", "size", "byte", "text", "same":
		x.texts(name)
	default:
		x.numbers(name)
	}
}

func (x *plain) plainer(name string, i api.Ins) {
	f, of := *x.frame(), x.of()
	switch name {
	case "int":
		x.leave(0, uint64(i.A)*2+1)
	case "str":
		if i.A >= len(x.p.Strs) {
			x.broken()
		}
		x.layText(0, x.p.Strs[i.A])
	case "local":
		if i.A >= of.Locals {
			x.broken()
		}
		x.leave(0, x.m.Stack[f.Base+i.A])
	case "set":
		t := x.take(1)
		if i.A >= of.Locals {
			x.broken()
		}
		x.leave(1)
		x.m.Stack[f.Base+i.A] = t[0]
	case "env":
		if o := x.object(f.Self, 4); len(o.Fields) <= i.A {
			x.broken()
		} else {
			x.leave(0, o.Fields[i.A])
		}
	case "self":
		x.leave(0, f.Self)
	case "close":
		x.take(i.B)
		if i.A >= len(x.p.Funcs) || x.p.Funcs[i.A].Free != i.B {
			x.broken()
		}
		x.lay(i.B, 1+i.B, func(t []uint64) api.Object { return api.Object{Kind: 4, Tag: i.A, Fields: t} })
	case "pop":
		x.take(1)
		x.leave(1)
	case "isint":
		t := x.take(1)
		x.leaveBit(1, t[0]%2 == 1 && int64(t[0])>>1 == int64(i.A))
	case "istag":
		o, ok := object.Get(x.a, x.m.Heap, x.take(1)[0])
		x.leaveBit(1, ok && o.Kind == 1 && o.Tag == i.A)
	}
}

func (x *plain) numbers(name string) {
	t := x.take(2)
	a, b := big.NewInt(x.number(t[0])), big.NewInt(x.number(t[1]))
	v := new(big.Int)
	switch name {
	case "add":
		v.Add(a, b)
	case "sub":
		v.Sub(a, b)
	case "mul":
		v.Mul(a, b)
	case "div", "mod":
		if b.Sign() == 0 {
			x.raises(-1)
		}
		if v.Quo(a, b); name == "mod" {
			v.Rem(a, b)
		}
	case "eq":
		x.leaveBit(2, a.Cmp(b) == 0)
		return
	case "less":
		x.leaveBit(2, a.Cmp(b) < 0)
		return
	default:
		panic(name)
	}
	// The word is twice the number, and 1, as far as 64 bits go.
	v.Add(v.Lsh(v, 1), big.NewInt(1)).Mod(v, new(big.Int).Lsh(big.NewInt(1), 64))
	x.leave(2, v.Uint64())
}

func (x *plain) heap(name string, i api.Ins) {
	switch name {
	case "block":
		x.take(i.B)
		x.lay(i.B, 1+i.B, func(t []uint64) api.Object { return api.Object{Kind: 1, Tag: i.A, Fields: t} })
	case "field":
		o := x.object(x.take(1)[0], 1)
		if len(o.Fields) <= i.A {
			x.broken()
		}
		x.leave(1, o.Fields[i.A])
	case "store":
		t := x.take(2)
		if x.object(t[0], 1).Tag != 0 {
			x.broken()
		}
		x.set(t[0], 0, t[1])
		x.leave(2, 1)
	case "array":
		n := x.number(x.take(2)[0])
		if n < 0 || n > 400 {
			x.raises(-5)
		}
		x.lay(2, 1+int(n), func(t []uint64) api.Object {
			o := api.Object{Kind: 3}
			for range n {
				o.Fields = append(o.Fields, t[1])
			}
			return o
		})
	case "get":
		t := x.take(2)
		x.leave(2, x.object(t[0], 3).Fields[x.bound(t[1], len(x.object(t[0], 3).Fields))])
	case "put":
		t := x.take(3)
		x.set(t[0], x.bound(t[1], len(x.object(t[0], 3).Fields)), t[2])
		x.leave(3, 1)
	case "len":
		x.leave(1, uint64(len(x.object(x.take(1)[0], 3).Fields))*2+1)
	}
}

// bound is the number of w, which must be one of so many.
func (x *plain) bound(w uint64, many int) int {
	n := x.number(w)
	if n < 0 || n >= int64(many) {
		x.raises(-2)
	}
	return int(n)
}

func (x *plain) set(w uint64, field int, v uint64) {
	if !object.Set(x.a, x.m.Heap, w, field, v) {
		panic("no such field")
	}
}

func (x *plain) texts(name string) {
	switch name {
	case "cat":
		t := x.take(2)
		s := x.object(t[0], 2).Text + x.object(t[1], 2).Text
		if len(s) > 400 {
			x.raises(-5)
		}
		x.layText(2, s)
	case "size":
		x.leave(1, uint64(len(x.object(x.take(1)[0], 2).Text))*2+1)
	case "byte":
		t := x.take(2)
		s := x.object(t[0], 2).Text
		x.leave(2, uint64(s[x.bound(t[1], len(s))])*2+1)
	case "text":
		x.layText(1, big.NewInt(x.number(x.take(1)[0])).String())
	case "same":
		t := x.take(2)
		x.leaveBit(2, strings.Compare(x.object(t[0], 2).Text, x.object(t[1], 2).Text) == 0)
	}
}

func (x *plain) flow(name string, i api.Ins) {
	own := slices.ContainsFunc(x.m.Handlers, func(h api.Handler) bool { return h.Frame == len(x.m.Frames) })
	switch name {
	case "call":
		t := x.take(2)
		x.enter(t, len(x.m.Stack)-2, len(x.m.Frames) >= 60)
		x.m.Frames[len(x.m.Frames)-2].PC++
	case "tail":
		t := x.take(2)
		if own {
			x.broken()
		}
		n := len(x.m.Frames) - 1
		x.enter(t, x.frame().Base, false)
		x.m.Frames = slices.Delete(x.m.Frames, n, n+1)
	case "ret":
		x.returns(own)
	case "jump", "try":
		x.jumps(name, 0, i.A)
	case "jumpz":
		x.jumps(name, x.number(x.take(1)[0]), i.A)
		x.m.Stack = x.m.Stack[:len(x.m.Stack)-1]
	case "untry":
		if !own {
			x.broken()
		}
		x.m.Handlers = x.m.Handlers[:len(x.m.Handlers)-1]
		x.frame().PC++
	case "raise":
		x.raises(x.number(x.take(1)[0]))
	case "host":
		x.host(i)
	}
}

// enter lays a frame upon the others, of the closure and the word that were taken.
func (x *plain) enter(t []uint64, base int, many bool) {
	o := x.object(t[0], 4)
	if o.Tag < 1 || o.Tag >= len(x.p.Funcs) || x.p.Funcs[o.Tag].Free != len(o.Fields) {
		x.broken()
	}
	if many || base+x.p.Funcs[o.Tag].Locals > 200 {
		x.deep()
	}
	x.m.Stack = append(x.m.Stack[:base:base], t[1])
	for len(x.m.Stack) < base+x.p.Funcs[o.Tag].Locals {
		x.m.Stack = append(x.m.Stack, 1)
	}
	x.m.Frames = append(x.m.Frames, api.Frame{Func: o.Tag, PC: 0, Base: base, Self: t[0]})
}

func (x *plain) returns(own bool) {
	t := x.take(1)
	if own {
		x.broken()
	}
	x.m.Stack = x.m.Stack[:x.frame().Base]
	x.m.Frames = x.m.Frames[:len(x.m.Frames)-1]
	if len(x.m.Frames) == 0 {
		x.m.State, x.m.Result = api.Halted, t[0]
	} else {
		x.m.Stack = append(x.m.Stack, t[0])
	}
}

func (x *plain) jumps(name string, n int64, to int) {
	if to >= len(x.of().Code) {
		x.broken()
	}
	if name == "try" {
		if len(x.m.Handlers) >= 30 || len(x.m.Stack) >= 200 {
			x.deep()
		}
		x.m.Handlers = append(x.m.Handlers, api.Handler{Frame: len(x.m.Frames), Height: len(x.m.Stack), PC: to})
	}
	if name != "try" && n == 0 {
		x.frame().PC = to
	} else {
		x.frame().PC++
	}
}

func (x *plain) host(i api.Ins) {
	x.ask = api.Ask{Call: i.A}
	switch i.A {
	case api.HEmit:
		x.ask.N = x.number(x.take(1)[0])
	case api.HLog:
		x.ask.Text = x.object(x.take(1)[0], 2).Text
	case api.HSend:
		t := x.take(2)
		x.ask.N = x.number(t[0])
		m, ok := data.Out(x.a, x.m.Heap, t[1])
		if !ok {
			x.leave(2, 1)
			return
		}
		x.ask.Mail = m
	case api.HRecv:
		if i.B >= len(x.p.Forms) {
			x.broken()
		}
		if len(x.m.Stack) >= 200 {
			x.deep()
		}
		x.ask.Form = i.B
	}
	x.asks = true
}

func (x *plain) reply(q api.Ask, r api.Reply) {
	switch q.Call {
	case api.HEmit, api.HLog:
		x.leave(1, 1)
	case api.HSend:
		x.leaveBit(2, r.N != 0)
	case api.HRecv:
		if r.None {
			x.stays(api.Blocked)
		}
		if !data.Fits(x.p.Forms, q.Form, r.Mail) {
			x.raises(-4)
		}
		x.room(data.Words(r.Mail))
		h, w, ok := data.In(x.a, x.m.Heap, r.Mail)
		if !ok {
			panic("no room for the message")
		}
		x.m.Heap = h
		x.leave(0, w)
	}
}
