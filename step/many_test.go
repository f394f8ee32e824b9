package step_test

import (
	"math/rand"
	"slices"
	"testing"

	"stockpot/api"
	"stockpot/frame"
	"stockpot/object"
	"stockpot/op"
	"stockpot/word"
)

// P12.3, and all of P12.1 and P12.2 against their plain telling

// dice throws what random machines are made of.
type dice struct{ *rand.Rand }

// one is one of the list.
func one[T any](d dice, l []T) T { return l[d.Intn(len(l))] }

// less is a number below n: often one of the least, seldom the last one.
func (d dice) less(n int) int {
	switch d.Intn(8) {
	case 0:
		return n - 1
	case 1:
		return d.Intn(n)
	}
	return d.Intn(min(n, 3))
}

// number is any number of 63 bits, most of them small.
func (d dice) number() int64 {
	return one(d, []int64{0, 0, 0, 1, 1, -1, 2, 3, -7, 8, 30, 100, 401, least, most, d.Int63() >> 1, -d.Int63() >> 1, int64(d.Intn(12))})
}

// ins is an instruction that may be, each Op as often.
func (d dice) ins() api.Ins {
	i := api.Ins{Op: d.Intn(api.Ops)}
	switch i.Op {
	case api.OInt, api.OIsInt:
		i.A = int(d.number())
	case api.OStr:
		i.A = d.less(api.MaxStrs)
	case api.OLocal, api.OSet:
		i.A = d.less(api.MaxLocals)
	case api.OEnv:
		i.A = d.less(api.MaxFree)
	case api.OClose:
		i.A, i.B = 1+d.less(api.MaxFuncs-1), d.less(api.MaxFree+1)
	case api.OJump, api.OJumpZ, api.OTry:
		i.A = d.less(api.MaxCode)
	case api.OBlock:
		i.A, i.B = d.less(api.MaxTag+1), 1+d.less(api.MaxSize)
	case api.OField:
		i.A = d.less(api.MaxSize)
	case api.OIsTag:
		i.A = d.less(api.MaxTag + 1)
	case api.OHost:
		if i.A = d.Intn(api.Hosts); i.A == api.HRecv {
			i.B = d.less(api.MaxForms)
		}
	}
	if !op.Good(i) {
		panic(i)
	}
	return i
}

// program is one that may be.
func (d dice) program() api.Program {
	p := api.Program{Funcs: make([]api.Func, 1+d.Intn(4)), Strs: []string{"", "thyme", "bay leaves and pepper"}[:d.Intn(4)]}
	for i := range p.Funcs {
		f := &p.Funcs[i]
		if f.Locals = 1 + d.less(api.MaxLocals); i == 0 {
			f.Locals = d.less(api.MaxLocals + 1)
		} else {
			f.Free = d.Intn(3)
		}
		for range 1 + d.Intn(9) {
			f.Code = append(f.Code, d.ins())
		}
		if d.Intn(4) > 0 {
			f.Code = append(f.Code, one(d, []api.Ins{ret, ret, {Op: api.OJump}, {Op: api.OTail}, {Op: api.ORaise}}))
		}
	}
	if d.Intn(3) > 0 {
		p.Forms = []api.Form{{Kind: api.FInt}, {Kind: api.FStr}, {Kind: api.FList, A: 0}, {Kind: api.FPair, A: 1, B: 2}, {Kind: api.FData, Cons: []int{-1, 3, 4}}}[:1+d.Intn(5)]
		for i, f := range p.Forms { // of a piece of the list
			if f.A >= len(p.Forms) || f.B >= len(p.Forms) || slices.Max(append([]int{-1}, f.Cons...)) >= len(p.Forms) {
				p.Forms[i] = api.Form{Kind: api.FBool}
			}
		}
	}
	for _, f := range p.Funcs {
		for at := range f.Code {
			if d.Intn(6) > 0 {
				d.mend(p, f, &f.Code[at])
			}
		}
	}
	return p
}

// mend makes the instruction speak of what there is, if there is any.
func (d dice) mend(p api.Program, f api.Func, i *api.Ins) {
	fit := func(n *int, many int) {
		if many > 0 {
			*n %= many
		}
	}
	switch i.Op {
	case api.OLocal, api.OSet:
		fit(&i.A, f.Locals)
	case api.OStr:
		fit(&i.A, len(p.Strs))
	case api.OClose:
		if len(p.Funcs) > 1 {
			i.A = 1 + d.Intn(len(p.Funcs)-1)
			i.B = p.Funcs[i.A].Free
		}
	case api.OHost:
		if i.A == api.HRecv {
			fit(&i.B, len(p.Forms))
		}
	case api.OJump, api.OJumpZ, api.OTry:
		fit(&i.A, len(f.Code))
	}
}

// pool is words of a heap, by what they are: numbers, Blocks, Strs, Arrays, Closures.
type pool [5][]uint64

// any is any word of the pool.
func (l pool) any(d dice) uint64 {
	for {
		if row := l[d.Intn(len(l))]; len(row) > 0 {
			return one(d, row)
		}
	}
}

// of is a word of that sort, if there is one, but not always.
func (l pool) of(d dice, sort int) uint64 {
	if len(l[sort]) == 0 || d.Intn(12) == 0 {
		return l.any(d)
	}
	return one(d, l[sort])
}

// object is one that may be, for that program.
func (d dice) object(p api.Program, l pool) api.Object {
	o := api.Object{Kind: 1 + d.Intn(4)}
	fields := 0
	switch o.Kind {
	case api.Str:
		o.Text = "stock of bones, of roots and of herbs, simmered for hours and hours"[:d.Intn(60)]
		if d.Intn(4) == 0 {
			for len(o.Text) <= api.MaxBytes/2 {
				o.Text += o.Text + "."
			}
			o.Text = o.Text[:min(len(o.Text), api.MaxBytes)]
		}
	case api.Block:
		o.Tag, fields = d.less(api.MaxTag+1), 1+d.less(api.MaxSize)
	case api.Array:
		fields = d.less(9)
	case api.Closure:
		o.Tag = d.Intn(len(p.Funcs) + 1)
		if fields = d.Intn(3); o.Tag < len(p.Funcs) && d.Intn(4) > 0 {
			fields = p.Funcs[o.Tag].Free
		}
	}
	for range fields {
		o.Fields = append(o.Fields, l.any(d))
	}
	return o
}

// fill lays objects into the machine's heap, and tells all words that it may have.
func (d dice) fill(x *bench) pool {
	var l pool
	for range 6 {
		l[0] = append(l[0], word.Int(d.number()))
	}
	for range d.Intn(25) {
		o := d.object(x.p, l)
		h, w, ok := object.Put(x.a, x.m.Heap, o)
		if ok {
			x.m.Heap = h
			l[o.Kind] = append(l[o.Kind], w)
		}
	}
	for _, w := range l[api.Block] { // rings, too
		if d.Intn(6) == 0 {
			object.Set(x.a, x.m.Heap, w, 0, l.any(d))
		}
	}
	if d.Intn(2) == 0 { // often the heap is nearly full
		for left := d.Intn(6); x.m.Heap.Half-x.m.Heap.Top > left; {
			x.m.Heap, _, _ = object.Put(x.a, x.m.Heap, api.Object{Kind: api.Array})
		}
	}
	return l
}

// frames lays frames, and words, upon the machine's stack, most often few of them.
func (d dice) frames(x *bench, l pool) {
	many := one(d, []int{1, 1, 1, 2, 3, api.MaxFrames, 1 + d.Intn(api.MaxFrames)})
	for range many {
		f := api.Frame{Func: d.Intn(len(x.p.Funcs)), Base: len(x.m.Stack), Self: l.of(d, api.Closure)}
		of := x.p.Funcs[f.Func]
		if len(x.m.Stack)+of.Locals > api.MaxStack {
			continue
		}
		f.PC = d.Intn(len(of.Code))
		x.m.Frames = append(x.m.Frames, f)
		for range of.Locals + d.Intn(3)*d.Intn(2) {
			x.m.Stack = append(x.m.Stack, l.any(d))
		}
	}
	more := one(d, []int{0, 1, 2, 4, 9, 9, 9, api.MaxStack, d.Intn(api.MaxStack)})
	for range more {
		x.m.Stack = append(x.m.Stack, l.any(d))
	}
	x.m.Stack = x.m.Stack[:min(len(x.m.Stack), api.MaxStack)]
	if last := x.m.Frames[len(x.m.Frames)-1]; len(x.m.Stack) < last.Base+x.p.Funcs[last.Func].Locals {
		panic("too many locals")
	}
}

// handlers lays handlers upon the machine's, most often few of them.
func (d dice) handlers(x *bench) {
	from := 1 + d.Intn(len(x.m.Frames))
	for range one(d, []int{0, 0, 1, 2, api.MaxHandlers}) {
		from = min(from+d.Intn(2), len(x.m.Frames))
		f := x.m.Frames[from-1]
		low := f.Base + x.p.Funcs[f.Func].Locals
		if low < api.MaxStack {
			x.m.Handlers = append(x.m.Handlers, api.Handler{Frame: from, Height: low + d.less(api.MaxStack-low), PC: d.Intn(len(x.p.Funcs[f.Func].Code))})
		}
	}
}

// sorts is of each Op, of which sort each word must be that it takes: an index of pool; 9, if it may be any.
func sorts(i api.Ins) []int {
	const n, b, s, a, c, any = 0, api.Block, api.Str, api.Array, api.Closure, 9
	switch i.Op {
	case api.OCall, api.OTail:
		return []int{c, any}
	case api.OJumpZ, api.OText, api.ORaise:
		return []int{n}
	case api.OAdd, api.OSub, api.OMul, api.ODiv, api.OMod, api.OEq, api.OLess:
		return []int{n, n}
	case api.OField:
		return []int{b}
	case api.OStore:
		return []int{b, any}
	case api.OArray:
		return []int{n, any}
	case api.OGet:
		return []int{a, n}
	case api.OPut:
		return []int{a, n, any}
	case api.OLen:
		return []int{a}
	case api.OCat, api.OSame:
		return []int{s, s}
	case api.OSize:
		return []int{s}
	case api.OByte:
		return []int{s, n}
	case api.OHost:
		return [][]int{{n}, {s}, {n, any}, {}}[i.A]
	}
	return nil
}

// suit makes the words of the stack's end such as the instruction takes.
func (d dice) suit(x *bench, l pool) {
	kinds := sorts(x.ins())
	for at, sort := range kinds {
		place := len(x.m.Stack) - len(kinds) + at
		if sort != 9 && place >= 0 {
			x.m.Stack[place] = l.of(d, sort)
		}
	}
}

// bench is a machine that may be, Ready or Blocked, and the words that it may have.
func (d dice) bench() (*bench, pool) {
	x := &bench{p: d.program()}
	half := api.MinHalf + d.Intn(90)
	if d.Intn(16) == 0 {
		half = 450
	}
	x.a, x.m.Heap = empty(half, d.Intn(2))
	x.m.Result, x.m.State = 1, d.Intn(2)
	l := d.fill(x)
	for len(x.m.Frames) == 0 {
		d.frames(x, l)
	}
	d.handlers(x)
	d.suit(x, l)
	return x, l
}

// reply is one that a host may give.
func (d dice) reply() api.Reply {
	r := api.Reply{N: d.number(), None: d.Intn(3) == 0}
	r.Mail = one(d, []api.Message{nil, {{N: 4}}, {{N: 0}}, {{Kind: api.Str, Text: "from afar"}}, {{Kind: api.Str}}, list(4), list(4, 5, 6, 7, 8), {{Kind: api.Block, N: 2}, {Kind: api.Str, Text: "x"}, {}}, {{Kind: api.Block, Tag: 1, N: 1}, {N: 1}}, {{N: 1}, {N: 1}}})
	return r
}

// tally counts what came of each Op, by the State that it came to, or 10 if it asked, or 11 if there was too little fuel.
type tally [api.Ops][12]int

const asked, tooShort = 10, 11

func (n *tally) count(o int, z api.Stepped) {
	switch {
	case z.Short:
		n[o][tooShort]++
	case z.Asks:
		n[o][asked]++
	default:
		n[o][z.M.State]++
	}
}

func TestManyMachines(t *testing.T) {
	d := dice{rand.New(rand.NewSource(12))}
	var n tally
	for range 9000 {
		x, _ := d.bench()
		if !frame.Good(x.a, x.p, x.m) {
			t.Fatalf("%v may not be", x.m)
		}
		if d.Intn(4) == 0 {
			x.answer(t, d.reply())
			continue
		}
		i := x.ins()
		n.count(i.Op, x.one(t, one(d, []int{1000, 1000, 1000, 1000, 1, 3, 0, -1})))
		if t.Failed() {
			t.Fatalf("%v of %v", x.p, x.m)
		}
	}
	for o := range api.Ops {
		if n[o][api.Broken] == 0 || n[o][tooShort] == 0 {
			t.Errorf("%s came to %d", op.Name(o), n[o])
		}
	}
	all := func(state int, names ...string) {
		for _, name := range names {
			if o, _ := op.Of(name); n[o][state] == 0 {
				t.Errorf("%s came to %d", name, n[o])
			}
		}
	}
	for o := range api.Ops {
		if o != api.ORaise { // a handler's is Ready, too, but rare
			all(api.Ready, op.Name(o))
		}
	}
	all(api.Halted, "ret")
	all(api.Raised, "div", "mod", "array", "get", "put", "byte", "raise", "cat")
	all(api.NoWords, "str", "close", "block", "array", "cat", "text")
	all(api.TooDeep, "int", "str", "local", "self", "env", "call", "try")
	all(asked, "host")
}

// poolOf is all words that the machine may have now.
func poolOf(d dice, x *bench) pool {
	l := pool{{1, 3, 5, 7, word.Int(d.number())}}
	all, _ := object.All(x.a, x.m.Heap)
	for _, at := range all {
		o, _ := object.Get(x.a, x.m.Heap, word.Place(at))
		l[o.Kind] = append(l[o.Kind], word.Place(at))
	}
	return l
}

// TestManyRuns lets machines run on, with what the next instruction takes laid on the stack where there is none, so that most of them go on for a while.
func TestManyRuns(t *testing.T) {
	d := dice{rand.New(rand.NewSource(21))}
	steps, ends := 0, [9]int{}
	for range 1200 {
		x, _ := d.bench()
		for range 12 {
			l := poolOf(d, x)
			takes, _, _ := op.Effect(x.ins())
			for len(x.m.Stack)-x.floor() < takes && len(x.m.Stack) < api.MaxStack {
				x.m.Stack = append(x.m.Stack, l.any(d))
			}
			d.suit(x, l)
			z := x.one(t, 1000)
			steps++
			x.m = z.M
			if z.Asks {
				m, ok := x.answer(t, d.reply())
				if !ok {
					t.Fatalf("%v of %v was asked, and is not answered", x.ins(), x.m)
				}
				x.m = m
			}
			if t.Failed() {
				t.Fatalf("%v of %v", x.p, x.m)
			}
			if x.m.State != api.Ready {
				break
			}
		}
		ends[x.m.State]++
	}
	if steps < 3000 || slices.Contains([]int{ends[api.Ready], ends[api.Blocked], ends[api.Halted], ends[api.Raised], ends[api.NoWords], ends[api.TooDeep], ends[api.Broken]}, 0) {
		t.Errorf("%d steps came to %d", steps, ends)
	}
}

// TestApart: what a machine does to its region's words doesn't hang on where the region lies, nor on what lies beside it.
func TestApart(t *testing.T) {
	d := dice{rand.New(rand.NewSource(5))}
	for range 300 {
		x, _ := d.bench()
		y := &bench{a: copyOf(x.a), p: x.p, m: cloned(x.m)}
		for _, r := range y.a.Regions() {
			if r[0] != y.m.Heap.Base {
				for at := range r[1] {
					y.a.Set(r[0], at, d.Uint64())
				}
			}
		}
		p, q := x.one(t, 1000), y.one(t, 1000)
		words, _ := x.a.Words(x.m.Heap.Base)
		others, _ := y.a.Words(y.m.Heap.Base)
		if !sameStepped(p, q) || !slices.Equal(words, others) {
			t.Errorf("%v of %v comes to %v, and to %v", x.ins(), x.m, p, q)
		}
	}
}
