package run_test

import (
	"reflect"
	"slices"
	"testing"

	"stockpot/api"
	"stockpot/arena"
	"stockpot/frame"
	"stockpot/run"
)

// ahead is how many words of the arena lie in another region ahead of the heap's; so many lie in one behind it.
const ahead = 3

// litter is what the words hold that no object takes: it looks like the head of a block.
const litter = 0x1_0000_0001

// empty is an arena with a heap that has no objects, its words full of litter, a region on either side of it.
func empty(half, space int) (*arena.Arena, api.Heap) {
	a, _ := arena.New(2*half + 2*ahead)
	for _, n := range []int{ahead, 2 * half, ahead} {
		base, _ := a.Cut(n)
		for at := range n {
			a.Set(base, at, litter)
		}
	}
	return a, api.Heap{Base: ahead, Half: half, Space: space}
}

// copyOf is another arena with the same regions and words.
func copyOf(a *arena.Arena) *arena.Arena {
	if a == nil {
		return nil
	}
	b, _ := arena.New(a.Len())
	end := 0
	for _, r := range a.Regions() {
		if r[0] > end { // words that are in no region
			b.Cut(r[0] - end)
			defer b.Free(end)
		}
		b.Cut(r[1])
		end = r[0] + r[1]
		words, _ := a.Words(r[0])
		for at, w := range words {
			b.Set(r[0], at, w)
		}
	}
	return b
}

// everything is the words of each region of the arena; the heap's is the second one.
func everything(a *arena.Arena) [][]uint64 {
	if a == nil {
		return nil
	}
	var whole [][]uint64
	for _, r := range a.Regions() {
		l, _ := a.Words(r[0])
		whole = append(whole, l)
	}
	return whole
}

func same(m, n api.Machine) bool {
	return m.Heap == n.Heap && slices.Equal(m.Stack, n.Stack) && slices.Equal(m.Frames, n.Frames) && slices.Equal(m.Handlers, n.Handlers) && m.State == n.State && m.Result == n.Result && m.Code == n.Code
}

func sameAsk(p, q api.Ask) bool {
	return p.Call == q.Call && p.N == q.N && p.Text == q.Text && slices.Equal(p.Mail, q.Mail) && p.Form == q.Form
}

func sameRan(x, y api.Ran) bool {
	return same(x.M, y.M) && x.Used == y.Used && x.Had == y.Had && slices.EqualFunc(x.Asks, y.Asks, sameAsk) && x.Waits == y.Waits && x.Short == y.Short
}

// Each of these is another one of the same, whose lists have some more in their spare room.

func spared[T any](l []T, spare T) []T { return append(slices.Clone(l), spare, spare)[:len(l)] }

func machineOf(m api.Machine) api.Machine {
	m.Stack = spared(m.Stack, 0x77)
	m.Frames = spared(m.Frames, api.Frame{Func: 77, PC: 77, Base: 77, Self: 77})
	m.Handlers = spared(m.Handlers, api.Handler{Frame: 77, Height: 77, PC: 77})
	return m
}

func programOf(p api.Program) api.Program {
	p.Funcs = spared(p.Funcs, api.Func{Locals: 77})
	for i := range p.Funcs {
		p.Funcs[i].Code = spared(p.Funcs[i].Code, api.Ins{Op: 77})
	}
	p.Strs = spared(p.Strs, "spare")
	p.Forms = spared(p.Forms, api.Form{Kind: 77})
	for i := range p.Forms {
		p.Forms[i].Cons = spared(p.Forms[i].Cons, 77)
	}
	return p
}

func repliesOf(r []api.Reply) []api.Reply {
	r = spared(r, api.Reply{N: 77})
	for i := range r {
		r[i].Mail = spared(r[i].Mail, api.Cell{Kind: 77})
	}
	return r
}

// full is the list with its spare room.
func full[T any](l []T) []T { return l[:cap(l)] }

// given is what is handed in, and what it was.
type given struct {
	m, wasM api.Machine
	p, wasP api.Program
	r, wasR []api.Reply
}

func give(p api.Program, m api.Machine, r []api.Reply) given {
	return given{machineOf(m), machineOf(m), programOf(p), programOf(p), repliesOf(r), repliesOf(r)}
}

// kept says whether all that was handed in is as it was, its spare room included.
func (g given) kept() bool {
	if !reflect.DeepEqual(g.m, g.wasM) || !reflect.DeepEqual(g.p, g.wasP) || !reflect.DeepEqual(g.r, g.wasR) {
		return false
	}
	kept := slices.Equal(full(g.m.Stack), full(g.wasM.Stack)) && slices.Equal(full(g.m.Frames), full(g.wasM.Frames)) && slices.Equal(full(g.m.Handlers), full(g.wasM.Handlers)) && slices.Equal(full(g.p.Strs), full(g.wasP.Strs)) && reflect.DeepEqual(full(g.p.Funcs), full(g.wasP.Funcs)) && reflect.DeepEqual(full(g.p.Forms), full(g.wasP.Forms)) && reflect.DeepEqual(full(g.r), full(g.wasR))
	for i := range g.p.Funcs {
		kept = kept && slices.Equal(full(g.p.Funcs[i].Code), full(g.wasP.Funcs[i].Code))
	}
	for i := range g.p.Forms {
		kept = kept && slices.Equal(full(g.p.Forms[i].Cons), full(g.wasP.Forms[i].Cons))
	}
	for i := range g.r {
		kept = kept && slices.Equal(full(g.r[i].Mail), full(g.wasR[i].Mail))
	}
	return kept
}

// shares says whether two lists have a place in common, their spare room included.
func shares[T any](l, k []T) bool {
	l, k = full(l), full(k)
	if len(l) == 0 || len(k) == 0 {
		return false
	}
	within := func(v *T, l []T) bool {
		for i := range l {
			if &l[i] == v {
				return true
			}
		}
		return false
	}
	return within(&l[0], k) || within(&k[0], l)
}

// owned expects that no list of what is told shares memory with another one of them, nor with what was handed in.
func owned(t *testing.T, g given, x api.Ran) {
	t.Helper()
	if shares(x.M.Stack, g.m.Stack) || shares(x.M.Frames, g.m.Frames) || shares(x.M.Handlers, g.m.Handlers) {
		t.Errorf("the machine that is told has a list of the one that was handed in: %v", x.M)
	}
	var mails []api.Message
	for _, r := range g.r {
		mails = append(mails, r.Mail)
	}
	for _, q := range x.Asks {
		if slices.ContainsFunc(mails, func(m api.Message) bool { return shares(m, q.Mail) }) {
			t.Errorf("the mail %v has a list of another one", q.Mail)
		}
		mails = append(mails, q.Mail)
	}
}

// bench is a machine with its program, in an arena.
type bench struct {
	a *arena.Arena
	p api.Program
	m api.Machine
}

// begun is a machine that begins, with an empty heap.
func begun(half, space int, p api.Program) *bench {
	a, h := empty(half, space)
	return &bench{a, p, frame.Start(h, p)}
}

// twin is another bench with the same.
func (x *bench) twin() *bench { return &bench{copyOf(x.a), x.p, machineOf(x.m)} }

// run runs the machine, expects all that Run promises, whatever it is given, and goes on with the machine that is told.
func (x *bench) run(t *testing.T, fuel int, r []api.Reply) (api.Ran, bool) {
	t.Helper()
	wantA, others := copyOf(x.a), everything(x.a)
	want, wantOK := plainRun(wantA, x.p, machineOf(x.m), fuel, r)
	g := give(x.p, x.m, r)
	told, ok := run.Run(x.a, g.p, g.m, fuel, g.r)
	if ok != wantOK || !sameRan(told, want) {
		t.Errorf("Run(%v, %v, %d, %v) = %v, %t, want %v, %t", x.p, x.m, fuel, r, told, ok, want, wantOK)
	}
	if !reflect.DeepEqual(everything(x.a), everything(wantA)) {
		t.Errorf("behind %v the arena holds %x, want %x", told, everything(x.a), everything(wantA))
	}
	for i, l := range everything(x.a) {
		if i != 1 && !slices.Equal(l, others[i]) {
			t.Errorf("behind %v another region holds %x", told, l)
		}
	}
	if !g.kept() {
		t.Errorf("what was handed in is now %v, and was %v", g, give(x.p, x.m, r))
	}
	owned(t, g, told)
	if ok {
		x.holds(t, told, fuel, r)
		x.m = told.M
	}
	return told, ok
}

// holds expects of each run what follows from the chapter.
func (x *bench) holds(t *testing.T, y api.Ran, fuel int, r []api.Reply) {
	t.Helper()
	asks := y.Had
	if y.Waits {
		asks++
	}
	goesOn := y.M.State == api.Ready || y.M.State == api.Blocked
	switch {
	case y.Used < 0 || y.Used > max(fuel, 0):
		t.Errorf("with %d of fuel a run costs %d", fuel, y.Used)
	case len(y.Asks) != asks || y.Had > len(r) || y.Waits && y.Had != len(r):
		t.Errorf("with %d replies: %v", len(r), y)
	case y.Waits && y.Short, (y.Waits || y.Short) && !goesOn, y.M.State == api.Ready && !y.Waits && !y.Short:
		t.Errorf("no run ends so: %v", y)
	case !frame.Good(x.a, x.p, y.M):
		t.Errorf("%v may not be", y.M)
	}
}

// none expects that there is no answer, whatever the fuel and the replies, and that nothing changes.
func (x *bench) none(t *testing.T) {
	t.Helper()
	for _, fuel := range []int{-1 << 63, -1, 0, 1, 99, 1<<63 - 1} {
		for _, r := range [][]api.Reply{nil, {{N: 1}}, {{None: true}, {Mail: api.Message{{N: 1}}}}} {
			was := copyOf(x.a)
			g := give(x.p, x.m, r)
			if y, ok := run.Run(x.a, g.p, g.m, fuel, g.r); ok || !sameRan(y, api.Ran{}) {
				t.Errorf("Run(%v, %v, %d, %v) = %v, %t", x.p, x.m, fuel, r, y, ok)
			}
			if !g.kept() || !reflect.DeepEqual(everything(x.a), everything(was)) {
				t.Errorf("asked of %v something changed", x.m)
			}
		}
	}
}
