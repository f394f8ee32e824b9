package run_test

import (
	"math/rand"
	"reflect"
	"slices"
	"testing"

	"stockpot/api"
	"stockpot/code"
	"stockpot/word"
)

// P13.3, and all of P13.1 against its plain telling

// dice throws what random programs are made of.
type dice struct{ *rand.Rand }

func newRand(seed int64) *rand.Rand { return rand.New(rand.NewSource(seed)) }

// What a word is.
const (
	aNumber = iota
	aText
	aBlock
	anArray
	aClosure
	sorts
)

// author writes the code of a function so that it goes on for a while: nearly always what an instruction takes is there, and is what it is to be.
type author struct {
	dice
	p    *api.Program // its functions have their Locals and their Free
	of   int
	code []api.Ins
}

func (w *author) add(op int, ab ...int) { w.code = append(w.code, ins(op, ab...)) }

// lay lays a word of that sort on the stack; deep is how much of it may be within more of it.
func (w *author) lay(sort, deep int) {
	switch sort {
	case aNumber:
		w.number(deep)
	case aText:
		w.text(deep)
	case aBlock:
		n := 1 + w.Intn(3)
		w.any(n, deep)
		w.add(api.OBlock, w.Intn(3), n)
	case anArray:
		w.add(api.OInt, w.Intn(6))
		w.any(1, deep)
		w.add(api.OArray)
	case aClosure:
		f := w.Intn(len(w.p.Funcs))
		if f == 0 { // no closure is of it
			w.number(deep)
			return
		}
		w.any(w.p.Funcs[f].Free, deep)
		w.add(api.OClose, f, w.p.Funcs[f].Free)
	}
}

// any lays n words of any sort.
func (w *author) any(n, deep int) {
	of := w.p.Funcs[w.of]
	for range n {
		switch kind := w.Intn(8); {
		case kind == 0:
			w.add(api.OSelf)
		case kind == 1 && of.Free > 0:
			w.add(api.OEnv, w.Intn(of.Free))
		case kind < 4:
			w.add(api.OLocal, w.Intn(of.Locals))
		case deep == 0:
			w.lay(aNumber, 0)
		default:
			w.lay(w.Intn(sorts), deep-1)
		}
	}
}

func (w *author) number(deep int) {
	kind := w.Intn(7)
	if deep == 0 {
		kind = 6
	}
	switch kind {
	case 0, 1:
		w.number(deep - 1)
		w.number(deep - 1)
		w.add(api.OAdd + w.Intn(7)) // one of them divides, by 0 too
	case 2:
		w.lay(anArray, deep-1)
		w.add(api.OLen)
	case 3:
		w.text(deep - 1)
		w.add(api.OSize)
	case 4:
		w.text(deep - 1)
		w.add(api.OInt, w.Intn(4))
		w.add(api.OByte)
	case 5:
		w.any(1, deep)
		w.add(api.OIsInt+w.Intn(2), w.Intn(3))
	default:
		w.add(api.OInt, w.Intn(40)-8)
	}
}

func (w *author) text(deep int) {
	switch kind := w.Intn(5); {
	case kind == 0 && deep > 0:
		w.text(deep - 1)
		w.text(deep - 1)
		w.add(api.OCat)
	case kind == 1 && deep > 0:
		w.number(deep - 1)
		w.add(api.OText)
	default:
		w.add(api.OStr, w.Intn(len(w.p.Strs)))
	}
}

// drop takes a word off the stack, or into a local, or leaves it.
func (w *author) drop() {
	switch w.Intn(9) {
	case 0:
	case 1, 2, 3:
		w.add(api.OSet, w.Intn(w.p.Funcs[w.of].Locals))
	default:
		w.add(api.OPop)
	}
}

// asks asks one of the host's calls.
func (w *author) asks() {
	switch call := w.Intn(api.Hosts); call {
	case api.HEmit:
		w.number(1)
		w.add(api.OHost, call)
	case api.HLog:
		w.text(1)
		w.add(api.OHost, call)
	case api.HSend:
		w.number(0)
		w.any(1, 2)
		w.add(api.OHost, call)
	case api.HRecv:
		w.add(api.OHost, call, w.Intn(len(w.p.Forms)))
	}
	w.drop()
}

// tries lets code run under a handler.
func (w *author) tries(deep int) {
	at := len(w.code)
	w.add(api.OTry)
	w.does(deep - 1)
	w.add(api.OUntry)
	w.add(api.OJump, len(w.code)+2)
	w.code[at].A = len(w.code)
	w.add(api.OPop)
}

// does does something, most often leaving the stack as high as it is.
func (w *author) does(deep int) {
	switch w.Intn(12) {
	case 0, 1, 2:
		w.asks()
	case 3:
		if deep > 0 {
			w.tries(deep)
		}
	case 4, 5:
		w.lay(aClosure, 1)
		w.any(1, 1)
		w.add(api.OCall)
		w.drop()
	case 6:
		w.any(2, 1)
		w.add(api.OBlock, 0, 1)
		w.any(1, 2)
		w.add(api.OStore)
		w.drop()
	case 7:
		w.lay(anArray, 1)
		w.add(api.OInt, w.Intn(5))
		w.any(1, 1)
		w.add(api.OPut)
		w.drop()
	case 8:
		w.lay(anArray, 1)
		w.add(api.OInt, 0)
		w.add(api.OGet)
		w.drop()
	case 9:
		w.number(1)
		w.add(api.OJumpZ, w.Intn(len(w.code)+1)) // back, to where the stack may be another
	default:
		w.any(1, 2)
		w.drop()
	}
	if w.Intn(60) == 0 { // now and then what may not be
		wild := []api.Ins{ins(api.OField, 3), pop, ins(api.OAdd), ins(api.OUntry), ins(api.OLocal, 9), ins(api.OStr, 39), ins(api.OJump, 599), ins(api.OCall), ret}
		w.code = append(w.code, wild[w.Intn(len(wild))])
	}
}

// ends writes the code's end.
func (w *author) ends() {
	switch kind := w.Intn(8); {
	case kind == 0:
		w.number(0)
		w.add(api.ORaise)
	case kind == 1:
		w.lay(aClosure, 1)
		w.any(1, 1)
		w.add(api.OTail)
	case kind < 5 && w.of == 0:
		w.add(api.OJump)
	default:
		w.any(1, 2)
		w.add(api.ORet)
	}
}

// program is one that may be.
func (d dice) program() api.Program {
	p := api.Program{
		Funcs: make([]api.Func, 1+d.Intn(4)),
		Strs:  []string{"", "thyme", "bay leaves and pepper"},
		Forms: []api.Form{{Kind: api.FInt}, {Kind: api.FStr}, {Kind: api.FList, A: 0}, {Kind: api.FPair, A: 1, B: 2}, {Kind: api.FData, Cons: []int{-1, 3, 4}}},
	}
	for i := range p.Funcs {
		p.Funcs[i].Locals = 1 + d.Intn(4)
		if i > 0 {
			p.Funcs[i].Free = d.Intn(3)
		}
	}
	for i := range p.Funcs {
		w := author{dice: d, p: &p, of: i}
		for range 1 + d.Intn(6) {
			w.does(2)
		}
		w.ends()
		p.Funcs[i].Code = w.code
	}
	if !code.Good(p) {
		panic("a program that may not be")
	}
	return p
}

// replies are such as a host may give, most of them more than are asked.
func (d dice) replies() []api.Reply {
	mails := []api.Message{nil, number(4), number(0), {{Kind: api.Str, Text: "from afar"}}, {{Kind: api.Str}}, list(4), list(4, 5, 6, 7, 8), append(api.Message{{Kind: api.Block, N: 2}, {Kind: api.Str, Text: "x"}}, list(2)...), {{Kind: api.Block, Tag: 2, N: 1}, {N: 0}}, {{N: 1}, {N: 1}}}
	var r []api.Reply
	for range d.Intn(4) * d.Intn(12) {
		r = append(r, api.Reply{N: int64(d.Intn(3)), Mail: mails[d.Intn(len(mails))], None: d.Intn(12) == 0})
	}
	return r
}

// bench is a machine that begins, or one that has run for a while.
func (d dice) bench(t *testing.T) *bench {
	for {
		x := begun(api.MinHalf+d.Intn(1+d.Intn(80)), d.Intn(2), d.program())
		if d.Intn(2) > 0 {
			x.run(t, d.Intn(80), d.replies())
		}
		if d.Intn(8) == 0 { // with little room on its stack
			for high := api.MaxStack - d.Intn(12); len(x.m.Stack) < high; {
				x.m.Stack = append(x.m.Stack, word.Int(7))
			}
		}
		if x.m.State == api.Ready || x.m.State == api.Blocked {
			return x
		}
	}
}

// TestManyRuns: what a machine comes to is what it is to be, in one run and in two.
func TestManyRuns(t *testing.T) {
	d := dice{newRand(13)}
	var ends [9]int
	waits, shorts, parts, had := 0, 0, 0, 0
	for range 500 {
		x := d.bench(t)
		fuel, r := 1+d.Intn(200), d.replies()
		whole := x.twin()
		all, ok := whole.run(t, fuel, r)
		if !ok {
			t.Fatalf("%v of %v is none that can go on", x.m, x.p)
		}
		ends[all.M.State]++
		had += all.Had
		switch {
		case all.Waits:
			waits++
			waitsAgain(t, x.twin(), all, r)
		case all.Short:
			shorts++
		}
		for _, first := range []int{0, 1, d.Intn(fuel + 1), d.Intn(all.Used + 1), all.Used - 1} {
			if inTwo(t, x.twin(), first, fuel, r, all, everything(whole.a)) {
				parts++
			}
		}
		if t.Failed() {
			t.Fatalf("%v of %v", x.p, x.m)
		}
	}
	tally := []int{waits, shorts, parts, had, ends[api.Ready], ends[api.Blocked], ends[api.Halted], ends[api.Raised], ends[api.NoWords], ends[api.TooDeep], ends[api.Broken]}
	if slices.Contains(tally, 0) {
		t.Errorf("so many wait, are short, go on in a second run, replies; by States: %d", tally)
	}
}

// inTwo runs the machine with so much fuel first, then with the rest, and expects that both come to what the one run did, and its region to the same words; it says whether there was a second one.
func inTwo(t *testing.T, x *bench, first, fuel int, r []api.Reply, all api.Ran, words [][]uint64) bool {
	t.Helper()
	y, _ := x.run(t, first, r)
	again := y.Short
	if again {
		z, ok := x.run(t, fuel-y.Used, r[y.Had:])
		if !ok {
			t.Errorf("%v can't go on", y)
		}
		y = joined(y, z)
	}
	if !sameRan(y, all) || !reflect.DeepEqual(everything(x.a), words) {
		t.Errorf("with %d of fuel first it comes to %v, and in one run to %v", first, y, all)
	}
	return again
}

// waitsAgain expects that a machine that waits asks the same again, and goes on with the reply, as if it had been there.
func waitsAgain(t *testing.T, x *bench, all api.Ran, r []api.Reply) {
	t.Helper()
	more := []api.Reply{{N: 1, Mail: number(4)}, none, none}
	longer := x.twin()
	want, _ := longer.run(t, all.Used+30, append(slices.Clone(r), more...))
	y, _ := x.run(t, all.Used+30, r)
	if !sameRan(y, all) {
		t.Errorf("with more fuel it comes to %v, and not to %v", y, all)
	}
	z, ok := x.run(t, 31, more)
	if !ok || len(z.Asks) == 0 || !sameAsk(z.Asks[0], y.Asks[len(y.Asks)-1]) {
		t.Errorf("%v comes to %v", y, z)
		return
	}
	z = joined(y, z)
	z.Used-- // it asked twice
	z.Asks = slices.Delete(z.Asks, len(y.Asks), len(y.Asks)+1)
	if !sameRan(z, want) || !reflect.DeepEqual(everything(x.a), everything(longer.a)) {
		t.Errorf("in two runs it comes to %v, in one to %v", z, want)
	}
}
