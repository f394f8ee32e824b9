package run_test

import (
	"math"
	"slices"
	"testing"

	"stockpot/api"
	"stockpot/arena"
	"stockpot/frame"
	"stockpot/run"
	"stockpot/word"
)

// P13.2

// whole expects that Whole is Run of the program's beginning in an arena of twice half words.
func whole(t *testing.T, p api.Program, half, fuel int, r []api.Reply) (api.Ran, []uint64) {
	t.Helper()
	a, _ := arena.New(2 * half)
	a.Cut(2 * half)
	want, wantOK := plainRun(a, p, frame.Start(api.Heap{Half: half}, p), fuel, r)
	g := give(p, api.Machine{}, r)
	x, words, ok := run.Whole(g.p, half, fuel, g.r)
	if !ok || !wantOK || !sameRan(x, want) {
		t.Errorf("Whole(%v, %d, %d, %v) = %v, %t, want %v", p, half, fuel, r, x, ok, want)
	}
	if all, _ := a.Words(0); !slices.Equal(words, all) || len(words) != 2*half {
		t.Errorf("Whole(%v, %d, %d, %v) tells the words %x, want %x", p, half, fuel, r, words, all)
	}
	if !g.kept() {
		t.Errorf("what was handed in is now %v", g)
	}
	owned(t, g, x)
	if shares(words, x.M.Stack) {
		t.Error("the words and the stack share memory")
	}
	return x, words
}

// noWhole expects that there is no answer.
func noWhole(t *testing.T, p api.Program, half int) {
	t.Helper()
	for _, fuel := range []int{math.MinInt, 0, 100, math.MaxInt} {
		g := give(p, api.Machine{}, []api.Reply{{}, none})
		if x, words, ok := run.Whole(g.p, half, fuel, g.r); ok || len(words) != 0 || !sameRan(x, api.Ran{}) {
			t.Errorf("Whole(%v, %d, %d) = %v, %x, %t", p, half, fuel, x, words, ok)
		}
		if !g.kept() {
			t.Errorf("what was handed in is now %v", g)
		}
	}
}

func TestWhole(t *testing.T) {
	p := program(0, ins(api.OInt, 1), ins(api.OInt, -1), ins(api.OBlock, 7, 2), ins(api.OStr, 0), ins(api.OBlock, 0, 2), ret)
	x, words := whole(t, p, 8, 100, nil)
	if x.M.State != api.Halted || x.M.Result != word.Place(5) || x.Used != 2+4+3+4+1 || x.M.Heap != (api.Heap{Half: 8, Top: 8}) {
		t.Errorf("it comes to %v", x)
	}
	want := []uint64{0x2_0000_0701, 3, math.MaxUint64, 0x4_0000_0002, 0x746c6173, 0x2_0000_0001, 0, 6, 0, 0, 0, 0, 0, 0, 0, 0}
	if !slices.Equal(words, want) {
		t.Errorf("its words are %x, want %x", words, want)
	}
	// With no fuel nothing has come to be.
	if x, words := whole(t, p, 8, 0, nil); !x.Short || !slices.Equal(words, make([]uint64, 16)) {
		t.Errorf("it comes to %v, its words are %x", x, words)
	}
}

func TestWholeInEachState(t *testing.T) {
	seen := map[int]bool{}
	for _, code := range [][]api.Ins{
		{ins(api.OInt, 4), ret},
		{ins(api.OInt, 4), ins(api.ORaise)},
		{host(api.HRecv), ret},
		{pop},
		{ins(api.OInt), ins(api.OJump)},
		{ins(api.OStr, 1), ins(api.OJump)},
	} {
		for _, r := range [][]api.Reply{nil, {none}, {mail(number(2)), none}} {
			x, _ := whole(t, program(1, code...), 8, 1000, r)
			seen[x.M.State] = true
		}
	}
	for _, state := range []int{api.Ready, api.Blocked, api.Halted, api.Raised, api.NoWords, api.TooDeep, api.Broken} {
		if !seen[state] {
			t.Errorf("nothing comes to State %d", state)
		}
	}
}

func TestHalves(t *testing.T) {
	p := program(0, ins(api.OInt, 3), host(api.HEmit), ret)
	for _, half := range []int{api.MinHalf, api.MinHalf + 1, 100, api.MaxHalf - 1, api.MaxHalf} {
		x, words := whole(t, p, half, 3, []api.Reply{{}})
		if x.M.State != api.Halted || !slices.Equal(words, make([]uint64, 2*half)) {
			t.Errorf("with %d it comes to %v", half, x)
		}
	}
	for _, half := range []int{
		api.MinHalf - 1, api.MaxHalf + 1, 0, 1, -1, -api.MinHalf, api.MaxArena / 2, api.MaxArena,
		math.MinInt, math.MinInt + api.MinHalf, math.MinInt + api.MaxHalf, // twice as much is a number of words that may be
		math.MaxInt, 1 << 62, -1 << 62,
	} {
		noWhole(t, p, half)
	}
}

func TestProgramsThatMayNotBe(t *testing.T) {
	for _, change := range []func(p *api.Program){
		func(p *api.Program) { *p = api.Program{} },
		func(p *api.Program) { p.Funcs[0].Locals = api.MaxLocals + 1 },
		func(p *api.Program) { p.Funcs[0].Locals = -1 },
		func(p *api.Program) { p.Funcs[0].Locals = math.MaxInt },
		func(p *api.Program) { p.Funcs[0].Free = 1 },
		func(p *api.Program) { p.Funcs[0].Code = nil },
		func(p *api.Program) { p.Funcs[0].Code = slices.Repeat([]api.Ins{ret}, api.MaxCode+1) },
		func(p *api.Program) { p.Funcs[0].Code[1].Op = api.Ops },
		func(p *api.Program) { p.Funcs = append(p.Funcs, api.Func{}) },
		func(p *api.Program) { p.Strs = make([]string, api.MaxStrs+1) },
		func(p *api.Program) { p.Forms[1].A = 2 },
	} {
		p := program(1, ins(api.OInt, 3), ret)
		whole(t, p, 8, 5, nil)
		change(&p)
		noWhole(t, p, 8)
		noWhole(t, p, 7)
	}
}

// counts is a program that makes a list of so many numbers.
func counts(n int) api.Program {
	return program(2,
		ins(api.OInt, n), ins(api.OSet),
		ins(api.OLocal), ins(api.OJumpZ, 12),
		ins(api.OLocal), ins(api.OLocal, 1), ins(api.OBlock, 1, 2), ins(api.OSet, 1),
		ins(api.OLocal), ins(api.OInt, -1), ins(api.OAdd), ins(api.OJump, 13),
		ins(api.OJump, 15),
		ins(api.OSet), ins(api.OJump, 2),
		ins(api.OLocal, 1), ret)
}

func TestHalvesAtWhichWordsRunOut(t *testing.T) {
	for _, n := range []int{3, 5, 33, 120} {
		for half := max(3*n-2, api.MinHalf); half <= min(3*n+2, api.MaxHalf); half++ {
			x, words := whole(t, counts(n), half, 100*n, nil)
			if want := 2 + 15*n + 3 + 2; half >= 3*n && (x.M.State != api.Halted || x.Used != want || x.M.Heap.Top != 3*n) {
				t.Errorf("a list of %d in %d words comes to %v", n, half, x)
			}
			if half >= 3*n {
				continue
			}
			// The last block is asked for in vain, at a cost of 1; the list that there is has gone over.
			if x.M.State != api.NoWords || x.Used != 2+15*(n-1)+5 || x.M.Heap != (api.Heap{Half: half, Space: 1, Top: 3*n - 3}) || words[0] != 0 {
				t.Errorf("a list of %d in %d words comes to %v", n, half, x)
			}
		}
	}
}

func TestWholeIsAnyRun(t *testing.T) {
	d := dice{newRand(4)}
	for range 300 {
		p, r := d.program(), d.replies()
		half, fuel := api.MinHalf+d.Intn(60), d.Intn(120)
		x, words := whole(t, p, half, fuel, r)
		// In another arena, behind another region, it comes to the same but for where the region lies.
		y := begun(half, 0, p)
		for at := range 2 * half {
			y.a.Set(ahead, at, 0)
		}
		z, _ := y.run(t, fuel, r)
		z.M.Heap.Base = 0
		if !sameRan(x, z) || !slices.Equal(words, everything(y.a)[1]) {
			t.Errorf("%v comes to %v, and to %v", p, x, z)
		}
	}
}

// Rule 4

func TestAskedTwice(t *testing.T) {
	r := []api.Reply{{}, {N: 1}, mail(number(3)), {}}
	x, words, _ := run.Whole(mixed(), 20, 99, r)
	y, others, _ := run.Whole(mixed(), 20, 99, r)
	if !sameRan(x, y) || !slices.Equal(words, others) || shares(words, others) || shares(x.Asks, y.Asks) {
		t.Errorf("it comes to %v, and to %v", x, y)
	}
}
