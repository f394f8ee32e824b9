package verify_test

import (
	"fmt"
	"math"
	"slices"
	"strings"
	"testing"

	"stockpot/api"
	"stockpot/code"
	"stockpot/verify"
)

// all is the capabilities, all four.
const all = 15

// Instructions, by the names that the document gives them.
var (
	ret    = api.Ins{Op: api.ORet}
	tail   = api.Ins{Op: api.OTail}
	pop    = api.Ins{Op: api.OPop}
	add    = api.Ins{Op: api.OAdd}
	untry  = api.Ins{Op: api.OUntry}
	raise  = api.Ins{Op: api.ORaise}
	number = api.Ins{Op: api.OInt, A: 7}
	emit   = api.Ins{Op: api.OHost, A: api.HEmit}
	log    = api.Ins{Op: api.OHost, A: api.HLog}
	send   = api.Ins{Op: api.OHost, A: api.HSend}
	recv   = api.Ins{Op: api.OHost, A: api.HRecv}
)

func jump(a int) api.Ins     { return api.Ins{Op: api.OJump, A: a} }
func jumpz(a int) api.Ins    { return api.Ins{Op: api.OJumpZ, A: a} }
func try(a int) api.Ins      { return api.Ins{Op: api.OTry, A: a} }
func local(a int) api.Ins    { return api.Ins{Op: api.OLocal, A: a} }
func set(a int) api.Ins      { return api.Ins{Op: api.OSet, A: a} }
func env(a int) api.Ins      { return api.Ins{Op: api.OEnv, A: a} }
func str(a int) api.Ins      { return api.Ins{Op: api.OStr, A: a} }
func shut(a, b int) api.Ins  { return api.Ins{Op: api.OClose, A: a, B: b} }
func block(b int) api.Ins    { return api.Ins{Op: api.OBlock, B: b} }
func recvOf(b int) api.Ins   { return api.Ins{Op: api.OHost, A: api.HRecv, B: b} }
func ints(n int) []api.Ins   { return slices.Repeat([]api.Ins{number}, n) }
func pops(n int) []api.Ins   { return slices.Repeat([]api.Ins{pop}, n) }
func raises(n int) []api.Ins { return slices.Repeat([]api.Ins{raise}, n) }

// row is the instructions of the parts, one behind the other.
func row(parts ...any) []api.Ins {
	var l []api.Ins
	for _, x := range parts {
		switch y := x.(type) {
		case api.Ins:
			l = append(l, y)
		case []api.Ins:
			l = append(l, y...)
		}
	}
	return l
}

// of is a program whose first function has this code, and three locals; the second one captures two; there are two texts and two forms.
func of(l []api.Ins) api.Program {
	return api.Program{
		Funcs: []api.Func{
			{Locals: 3, Code: l},
			{Locals: 1, Free: 2, Code: []api.Ins{env(1), ret}},
		},
		Strs:  []string{"a", "b"},
		Forms: []api.Form{{Kind: api.FInt}, {Kind: api.FStr}},
	}
}

// at is a program whose second function has this code, with four locals, and captures three.
func at(l []api.Ins) api.Program {
	p := of(row(number, ret))
	p.Funcs[1] = api.Func{Locals: 4, Free: 3, Code: l}
	return p
}

// copied is the program in memory of its own.
func copied(p api.Program) api.Program {
	p.Funcs, p.Strs, p.Forms = slices.Clone(p.Funcs), slices.Clone(p.Strs), slices.Clone(p.Forms)
	for i := range p.Funcs {
		p.Funcs[i].Code = slices.Clone(p.Funcs[i].Code)
	}
	for i := range p.Forms {
		p.Forms[i].Cons = slices.Clone(p.Forms[i].Cons)
	}
	return p
}

// told is the program as a message tells it.
func told(p api.Program) string {
	s := fmt.Sprint(p)
	return s[:min(len(s), 600)]
}

// checks expects of Check that answer.
func checks(t *testing.T, p api.Program, grants int, want api.Errno) {
	t.Helper()
	before := fmt.Sprint(p)
	if e := verify.Check(p, grants); e != want {
		t.Errorf("Check(%s, %d) = %d, want %d", told(p), grants, e, want)
	}
	if after := fmt.Sprint(p); after != before {
		t.Errorf("Check changed %s to %s", before, after)
	}
}

// isRight expects that the function is right, and has these states, told as fmt tells them without the brackets around ("" if they are not looked at).
func isRight(t *testing.T, p api.Program, f int, states string) {
	t.Helper()
	before := fmt.Sprint(p)
	l, ok := verify.States(p, f)
	if !ok || len(l) != len(p.Funcs[f].Code) || states != "" && fmt.Sprint(l) != "["+states+"]" {
		t.Errorf("States(%s, %d) = %v, %t, want [%s]", told(p), f, l, ok, states)
	}
	if after := fmt.Sprint(p); after != before {
		t.Errorf("States changed %s to %s", before, after)
	}
}

// isNotRight expects that the function has no states to be told.
func isNotRight(t *testing.T, p api.Program, f int) {
	t.Helper()
	if l, ok := verify.States(p, f); ok || len(l) != 0 {
		t.Errorf("States(%s, %d) = %v, %t, want none", told(p), f, l, ok)
	}
}

// takes expects that the first function of that code is right, and so the program, with these states.
func takes(t *testing.T, l []api.Ins, states string) {
	t.Helper()
	isRight(t, of(l), 0, states)
	checks(t, of(l), all, api.OK)
	if x := plainOf(of(l), 0, false); x.fault() != "" {
		t.Errorf("%v has faults: %s", l, x.fault())
	}
}

// refuses expects that the first function of that code, which may be, is not right, for that fault alone (as plain names it), and so the program, whatever is granted.
func refuses(t *testing.T, fault string, l []api.Ins) {
	t.Helper()
	refusesIn(t, fault, of(l), 0)
}

// refusesIn expects the same of that function of the program.
func refusesIn(t *testing.T, fault string, p api.Program, f int) {
	t.Helper()
	if !code.Good(p) {
		t.Errorf("%s may not be", told(p))
		return
	}
	if x := plainOf(p, f, false); x.fault() != fault {
		t.Errorf("%s has the faults %q, want %q", told(p), x.fault(), fault)
	}
	isNotRight(t, p, f)
	for _, grants := range []int{all, 0, -1} {
		checks(t, p, grants, api.ErrCode)
	}
}

// P8.1, P8.2

func TestExample(t *testing.T) {
	refuses(t, "takes", row(pop))
	refuses(t, "takes", row(pop, number, ret))
}

func TestPlainFunctions(t *testing.T) {
	takes(t, row(number, ret), "[0 0] [1 0]")
	takes(t, row(number, number, add, ret), "[0 0] [1 0] [2 0] [1 0]")
	takes(t, row(local(2), set(0), local(1), number, tail), "[0 0] [1 0] [0 0] [1 0] [2 0]")
	takes(t, row(number, raise), "[0 0] [1 0]")
	takes(t, row(number, number, raise), "[0 0] [1 0] [2 0]") // what lies beneath is left behind
	takes(t, row(try(5), number, untry, ret, pop, set(0), number, ret, tail),
		"[0 0] [0 1] [1 1] [1 0] [-1 -1] [1 0] [0 0] [1 0] [-1 -1]")
	isRight(t, of(row(number, ret)), 1, "[0 0] [1 0]")
}

func TestProgramsThatMayNotBe(t *testing.T) {
	spoilt := map[string]func(p *api.Program){
		"no function":              func(p *api.Program) { p.Funcs = nil },
		"61 functions":             func(p *api.Program) { p.Funcs = slices.Repeat([]api.Func{{Locals: 1, Code: row(number, ret)}}, 61) },
		"no code":                  func(p *api.Program) { p.Funcs[1].Code = nil },
		"much code":                func(p *api.Program) { p.Funcs[1].Code = row(ints(1), ret, ints(599)) },
		"Locals below 0":           func(p *api.Program) { p.Funcs[0].Locals = -1 },
		"no Locals":                func(p *api.Program) { p.Funcs[1].Locals = 0 },
		"many Locals":              func(p *api.Program) { p.Funcs[1].Locals = 61 },
		"Free of the first one":    func(p *api.Program) { p.Funcs[0].Free = 1 },
		"Free below 0":             func(p *api.Program) { p.Funcs[1] = api.Func{Locals: 1, Free: -1, Code: row(number, ret)} },
		"much Free":                func(p *api.Program) { p.Funcs[1].Free = 31 },
		"41 texts":                 func(p *api.Program) { p.Strs = make([]string, 41) },
		"a long text":              func(p *api.Program) { p.Strs[1] = strings.Repeat("x", 61) },
		"41 forms":                 func(p *api.Program) { p.Forms = slices.Repeat(p.Forms[:1], 41) },
		"a form of no kind":        func(p *api.Program) { p.Forms[1].Kind = 8 },
		"a form of one beyond":     func(p *api.Program) { p.Forms[1] = api.Form{Kind: api.FList, A: 2} },
		"an Op that there is not":  func(p *api.Program) { p.Funcs[0].Code[3].Op = api.Ops },
		"an Op below 0":            func(p *api.Program) { p.Funcs[0].Code[3].Op = -1 },
		"an A where none is":       func(p *api.Program) { p.Funcs[0].Code[3] = api.Ins{Op: api.OAdd, A: 1} },
		"a B where none is":        func(p *api.Program) { p.Funcs[0].Code[3] = api.Ins{Op: api.OAdd, B: 1} },
		"a local below 0":          func(p *api.Program) { p.Funcs[0].Code[3] = local(-1) },
		"a jump below 0":           func(p *api.Program) { p.Funcs[0].Code[3] = jump(-1) },
		"a jump to 600":            func(p *api.Program) { p.Funcs[0].Code[3] = jump(600) },
		"a closure of the first":   func(p *api.Program) { p.Funcs[0].Code[3] = shut(0, 0) },
		"a block of nothing":       func(p *api.Program) { p.Funcs[0].Code[3] = block(0) },
		"a host that there is not": func(p *api.Program) { p.Funcs[0].Code[3].A = 4 },
		"a host below 0":           func(p *api.Program) { p.Funcs[0].Code[3].A = -1 },
		"emit with a form":         func(p *api.Program) { p.Funcs[0].Code[3].B = 1 },
		"a number of 64 bits":      func(p *api.Program) { p.Funcs[0].Code[3] = api.Ins{Op: api.OInt, A: 1 << 62} },
		"one that may not be":      func(p *api.Program) { p.Funcs[1].Code[0] = api.Ins{Op: 99} },
	}
	for name, f := range spoilt {
		p := copied(of(row(number, ret, send, emit, log)))
		checks(t, p, all, api.OK)
		if n := verify.Calls(p); n != 7 {
			t.Errorf("Calls(%s) = %d", told(p), n)
		}
		f(&p)
		for _, grants := range []int{0, 7, all, -1} {
			checks(t, p, grants, api.ErrCode)
		}
		for k := range p.Funcs {
			isNotRight(t, p, k)
		}
		if n := verify.Calls(p); n != 0 {
			t.Errorf("%s: Calls %d", name, n)
		}
		if t.Failed() {
			t.Fatal(name)
		}
	}
	checks(t, api.Program{}, all, api.ErrCode)
	isNotRight(t, api.Program{}, 0)
}

// kind is an Op's instruction, and what the document's table tells that it takes and leaves.
type kind struct {
	i             api.Ins
	takes, leaves int
}

// straight are instructions of all Ops behind which just the one behind comes next.
func straight() []kind {
	l := []kind{
		{number, 0, 1}, {str(1), 0, 1}, {local(2), 0, 1}, {set(2), 1, 0}, {api.Ins{Op: api.OSelf}, 0, 1},
		{shut(1, 2), 2, 1}, {api.Ins{Op: api.OCall}, 2, 1},
		{api.Ins{Op: api.OField, A: 7}, 1, 1}, {api.Ins{Op: api.OIsInt, A: -5}, 1, 1}, {api.Ins{Op: api.OIsTag, A: 255}, 1, 1},
		{api.Ins{Op: api.OStore}, 2, 1}, {api.Ins{Op: api.OArray}, 2, 1}, {api.Ins{Op: api.OGet}, 2, 1}, {api.Ins{Op: api.OPut}, 3, 1},
		{api.Ins{Op: api.OLen}, 1, 1}, {api.Ins{Op: api.OCat}, 2, 1}, {api.Ins{Op: api.OSize}, 1, 1}, {api.Ins{Op: api.OByte}, 2, 1},
		{api.Ins{Op: api.OText}, 1, 1}, {api.Ins{Op: api.OSame}, 2, 1},
		{emit, 1, 1}, {log, 1, 1}, {send, 2, 1}, {recv, 0, 1}, {recvOf(1), 0, 1}, {pop, 1, 0},
	}
	for k := api.OAdd; k <= api.OLess; k++ {
		l = append(l, kind{api.Ins{Op: k}, 2, 1})
	}
	for n := 1; n <= 8; n++ {
		l = append(l, kind{block(n), n, 1})
	}
	return l
}

// level is the instructions by which a stack of that height becomes one of height 1.
func level(h int) []api.Ins {
	if h > 1 {
		return pops(h - 1)
	}
	return ints(1 - h)
}

// rising is the states of instructions behind each other, of which each lays one, from height 0 up to one below n.
func rising(n int) string {
	s := ""
	for h := range n {
		s += fmt.Sprintf("[%d 0] ", h)
	}
	return s
}

// levelled is the states of level(h), and of ret behind.
func levelled(h int) string {
	s := ""
	for ; h < 1; h++ {
		s += fmt.Sprintf("[%d 0] ", h)
	}
	for ; h > 1; h-- {
		s += fmt.Sprintf("[%d 0] ", h)
	}
	return s + "[1 0]"
}

func TestWhatEachOpTakesAndLeaves(t *testing.T) {
	for _, k := range straight() {
		for n := range 13 {
			behind := n - k.takes + k.leaves
			l := row(ints(n), k.i, level(behind), ret)
			if n < k.takes {
				refuses(t, "takes", l)
				continue
			}
			takes(t, l, rising(n)+fmt.Sprintf("[%d 0] ", n)+levelled(behind))
			if behind > 1 {
				refuses(t, "ret", row(ints(n), k.i, ret))
			} else if behind == 0 {
				refuses(t, "ret takes", row(ints(n), k.i, ret))
			}
		}
		refuses(t, "behind", row(ints(k.takes), k.i))
		if t.Failed() {
			t.Fatal(k)
		}
	}
}

func TestWhatJumpsTakeAndLeave(t *testing.T) {
	for n := range 5 {
		l := row(ints(n), jumpz(n+1), level(n-1), ret)
		if n == 0 {
			refuses(t, "takes", l)
		} else {
			takes(t, l, rising(n+1)+levelled(n-1))
		}
		takes(t, row(ints(n), jump(n+1), level(n), ret), rising(n+1)+levelled(n))
		l = row(ints(n), raise)
		if n == 0 {
			refuses(t, "takes", l)
		} else {
			takes(t, l, strings.TrimSpace(rising(n+1)))
		}
	}
}

func TestWhatTriesTakeAndLeave(t *testing.T) {
	for n := range 5 {
		l := row(ints(n), try(0), untry, level(n), ret)
		l[n].A = len(l)
		l = append(l, row(level(n+1), ret)...)
		s := rising(n) + fmt.Sprintf("[%d 0] [%d 1] ", n, n) + levelled(n) + " " + levelled(n+1)
		takes(t, l, s)
	}
}

func TestWhatCloseTakes(t *testing.T) {
	for free := range 31 {
		for _, n := range []int{free - 1, free, free + 1} {
			if n < 0 {
				continue
			}
			p := of(row(ints(n), shut(1, free), level(n-free+1), ret))
			p.Funcs[1] = api.Func{Locals: 1, Free: free, Code: row(number, ret)}
			if n < free {
				refusesIn(t, "takes", p, 0)
			} else {
				isRight(t, p, 0, rising(n)+fmt.Sprintf("[%d 0] ", n)+levelled(n-free+1))
				checks(t, p, all, api.OK)
			}
		}
	}
}

func TestWhatEnvTakes(t *testing.T) {
	p := at(row(env(0), env(2), add, ret))
	isRight(t, p, 1, "[0 0] [1 0] [2 0] [1 0]")
	checks(t, p, 0, api.OK)
	refusesIn(t, "behind", at(row(env(0))), 1)
	refusesIn(t, "ret", at(row(env(0), env(0), ret)), 1)
}

func TestAStackOf100(t *testing.T) {
	takes(t, row(ints(100), pops(99), ret), "")
	refuses(t, "high", row(ints(101), pops(100), ret))
	takes(t, row(ints(100), raise), "")
	refuses(t, "high", row(ints(101), raise))
	takes(t, row(ints(100), jump(100)), "")
	refuses(t, "high", row(ints(101), jump(101)))
	refuses(t, "high", row(ints(102), pops(101), ret))
	refuses(t, "high", row(ints(300), pops(299), ret))
	for _, k := range straight() {
		more := k.leaves - k.takes
		for n := 97; n <= 100; n++ {
			l := row(ints(n), k.i, pops(n+more-1), ret)
			if n+more > 100 {
				refuses(t, "high", l)
			} else {
				takes(t, l, "")
			}
		}
	}
	takes(t, row(number, ret, ints(200)), "") // where there is no state, there is no stack
}

func TestAStackOf100AtAHandler(t *testing.T) {
	for n := 97; n <= 100; n++ {
		l := row(ints(n), try(0), untry, pops(n-1), ret)
		l[n].A = len(l)
		l = append(l, raise)
		if n == 100 { // at A there are 101
			refuses(t, "high", l)
		} else {
			takes(t, l, "")
		}
	}
	// with a handler the stack may be as high as without
	takes(t, row(ints(99), try(102), number, raise, raise), "")
	refuses(t, "high", row(ints(99), try(103), number, number, raise, raise))
}

func TestTenHandlers(t *testing.T) {
	for n := range 13 {
		l := row(slices.Repeat([]api.Ins{try(0)}, n), slices.Repeat([]api.Ins{untry}, n), number, ret, raises(n))
		s, back := "", ""
		for k := range n {
			l[k].A = 2*n + 2 + k
			s += fmt.Sprintf("[0 %d] ", k)
			back += fmt.Sprintf(" [1 %d]", k)
		}
		for k := n; k > 0; k-- {
			s += fmt.Sprintf("[0 %d] ", k)
		}
		if n > 10 {
			refuses(t, "handlers", l)
		} else {
			takes(t, l, s+"[0 0] [1 0]"+back)
		}
	}
}

func TestTenHandlersAndNoUntry(t *testing.T) {
	for _, n := range []int{1, 9, 10, 11, 12} {
		l := row(slices.Repeat([]api.Ins{try(0)}, n), number, raise, raises(n))
		for k := range n {
			l[k].A = n + 2 + k
		}
		if n > 10 {
			refuses(t, "handlers", l)
		} else {
			takes(t, l, "")
		}
	}
}

func TestUntryWhereNoneWaits(t *testing.T) {
	refuses(t, "below", row(untry, number, ret))
	refuses(t, "below", row(number, untry, ret))
	refuses(t, "below", row(untry, jump(0)))
	refuses(t, "below", row(try(5), untry, untry, number, raise, raise))
	refuses(t, "below", row(try(4), untry, number, raise, untry, raise)) // at A the handler is gone
	refuses(t, "behind", row(untry))
	takes(t, row(number, ret, untry, untry), "[0 0] [1 0] [-1 -1] [-1 -1]")
}

func TestTwoWaysWithTheSameState(t *testing.T) {
	takes(t, row(number, jumpz(4), number, jump(5), number, ret), "[0 0] [1 0] [0 0] [1 0] [0 0] [1 0]") // ahead
	takes(t, row(number, jumpz(4), number, pop, number, ret), "[0 0] [1 0] [0 0] [1 0] [0 0] [1 0]")
	takes(t, row(number, jumpz(2), number, ret), "[0 0] [1 0] [0 0] [1 0]")
	takes(t, row(number, jumpz(0), number, ret), "[0 0] [1 0] [0 0] [1 0]") // back
	takes(t, row(number, number, jumpz(1), ret), "[0 0] [1 0] [2 0] [1 0]")
	takes(t, row(jump(2), ret, number, jump(1)), "[0 0] [1 0] [0 0] [1 0]")
	takes(t, row(jump(0)), "[0 0]") // rings
	takes(t, row(number, pop, jump(0)), "[0 0] [1 0] [0 0]")
	takes(t, row(number, jumpz(0), jump(0)), "[0 0] [1 0] [0 0]")
	takes(t, row(try(3), untry, jump(0), raise), "[0 0] [0 1] [0 0] [1 0]")
	takes(t, row(try(3), untry, jump(0), pop, jump(0)), "[0 0] [0 1] [0 0] [1 0] [0 0]") // by the handler, too
	takes(t, row(number, try(4), untry, ret, pop, ret), "[0 0] [1 0] [1 1] [1 0] [2 0] [1 0]")
	takes(t, row(try(3), number, untry, ret), "[0 0] [0 1] [1 1] [1 0]") // the handler is where all goes on
}

func TestTwoWaysWithUnlikeStates(t *testing.T) {
	for _, x := range []struct {
		fault string
		code  []api.Ins
	}{
		// ahead: none by the jump, one from what is ahead of it; the other way round; at the last one
		{"two", row(number, jumpz(3), number, number, raise)},
		{"two", row(number, number, jumpz(4), pop, number, raise)},
		{"two", row(number, number, jumpz(4), number, raise)},
		// back: the way that comes later is the higher one; the lower one
		{"two", row(jump(3), number, raise, number, jumpz(1), number, jump(1))},
		{"two", row(jump(3), number, raise, number, number, jumpz(1), pop, jump(1))},
		// rings, in which it is higher each time, or lower
		{"high two", row(number, jump(0))},
		{"high two", row(number, number, jumpz(0), raise)},
		{"takes two", row(number, number, number, pop, jump(3))},
		// handlers: none by the jump, one from what is ahead; the other way round; back
		{"two", row(number, jumpz(3), try(5), number, raise, raise)},
		{"two", row(try(6), number, jumpz(4), untry, number, raise, raise)},
		{"two", row(jump(3), number, raise, number, jumpz(1), try(7), jump(1), raise)},
		// rings, in which there are more each time, or fewer
		{"handlers two", row(try(2), jump(0), raise)},
		{"below two", row(try(3), untry, jump(1), raise)},
		// both unlike; as many in all
		{"two", row(number, jumpz(4), try(6), number, number, raise, raise)},
		{"two", row(try(1), number, raise)},
		// a try's A, that another way leads to: with as many handlers; with as many words; itself
		{"two", row(number, try(3), untry, raise)},
		{"two", row(try(2), number, raise)},
		{"high two", row(try(0), untry, number, raise)},
	} {
		refuses(t, x.fault, x.code)
	}
}

func TestATrysA(t *testing.T) {
	for n := range 4 {
		for h := range 4 { // with handlers that wait already, which raise
			l := row(ints(n), slices.Repeat([]api.Ins{try(0)}, h+1), number, raise, raises(h+1))
			s := rising(n)
			for k := range h + 1 {
				l[n+k].A = n + h + 3 + k
				s += fmt.Sprintf("[%d %d] ", n, k)
			}
			s += fmt.Sprintf("[%d %d] [%d %d]", n, h+1, n+1, h+1)
			for k := range h + 1 {
				s += fmt.Sprintf(" [%d %d]", n+1, k)
			}
			takes(t, l, s)
		}
	}
	takes(t, row(jump(2), raise, try(1), number, raise), "[0 0] [1 0] [0 0] [0 1] [1 1]") // back
	takes(t, row(try(4), untry, number, ret, ret), "[0 0] [0 1] [0 0] [1 0] [1 0]")       // what was raised is there
	refuses(t, "ret", row(try(4), untry, number, ret, number, ret))
	refuses(t, "takes", row(try(4), untry, number, ret, pop, pop, number, ret)) // and nothing else
}

func TestTheLastInstruction(t *testing.T) {
	refuses(t, "behind", row(number))
	refuses(t, "behind", row(number, number, add))
	refuses(t, "behind", row(number, jumpz(0)))
	refuses(t, "behind", row(jump(2), raise, number, try(1)))
	refuses(t, "behind", row(try(2), jump(3), raise, untry))
	refuses(t, "behind", row(jump(3), number, ret, number))
	refuses(t, "behind", ints(100))
	for _, i := range []api.Ins{number, pop, add, untry, emit, jumpz(0), try(0), str(0), local(0)} { // without a state it goes on nowhere
		takes(t, row(number, ret, i), "[0 0] [1 0] [-1 -1]")
	}
	takes(t, row(jump(2), raise, number, jump(1)), "")
}

func TestJumpsToTheLastInstructionAndBeyond(t *testing.T) {
	for _, n := range []int{4, 5, 6, 7, 50, 255, 256, 257, 598, 599, 600} {
		for _, a := range []int{n - 1, n, n + 1, 599} {
			for _, l := range [][]api.Ins{
				row(number, jump(a), raises(n-2)),
				row(number, number, jumpz(a), raises(n-3)),
				row(try(a), number, raise, raises(n-3)),
				row(number, ret, jump(a), raises(n-3)), // without a state
				row(number, ret, jumpz(a), raises(n-3)),
				row(number, ret, try(a), raises(n-3)),
			} {
				switch {
				case a < n:
					takes(t, l, "")
				case a < 600:
					refuses(t, "there", l)
				default: // it may not even be
					checks(t, of(l), all, api.ErrCode)
					isNotRight(t, of(l), 0)
				}
			}
		}
	}
	refuses(t, "there", row(jump(1)))
	refuses(t, "there", row(jump(0), jump(2)))
	refuses(t, "there", row(number, jumpz(4), number, ret)) // alone among what is right
	refuses(t, "there", row(jump(0), number, try(9)))
}

func TestRetAndTailAtEachState(t *testing.T) {
	for n := range 6 {
		for h := range 4 {
			for _, x := range []struct {
				i      api.Ins
				height int
				fault  string
			}{{ret, 1, "ret"}, {tail, 2, "tail"}} {
				l := row(slices.Repeat([]api.Ins{try(0)}, h), ints(n), x.i, raises(h))
				for k := range h {
					l[k].A = h + n + 1 + k
				}
				switch {
				case n == x.height && h == 0:
					takes(t, l, rising(n)+fmt.Sprintf("[%d 0]", n))
				case n < x.height:
					refuses(t, x.fault+" takes", l)
				default:
					refuses(t, x.fault, l)
				}
			}
		}
	}
	// without a state they are at none
	takes(t, row(number, ret, ret, tail, number, number, number, tail), "[0 0] [1 0] [-1 -1] [-1 -1] [-1 -1] [-1 -1] [-1 -1] [-1 -1]")
	// by each of two ways
	refuses(t, "ret two", row(number, number, jumpz(4), number, ret))
	refuses(t, "ret two", row(number, number, number, jumpz(6), pop, jump(6), ret))
	refuses(t, "tail two", row(number, number, number, jumpz(5), number, tail))
}

// limits are instructions of function f that name one of what there is, where the program has n of it, from the least n that may be to the greatest.
var limits = []struct {
	name     string
	f        int
	from, to int
	i        func(a int) api.Ins
	has      func(p *api.Program, n int)
}{
	{"local", 0, 0, 60, local, func(p *api.Program, n int) { p.Funcs[0].Locals = n }},
	{"local", 1, 1, 60, local, func(p *api.Program, n int) { p.Funcs[1].Locals = n }},
	{"set", 0, 0, 60, set, func(p *api.Program, n int) { p.Funcs[0].Locals = n }},
	{"set", 1, 1, 60, set, func(p *api.Program, n int) { p.Funcs[1].Locals = n }},
	{"env", 1, 0, 30, env, func(p *api.Program, n int) { p.Funcs[1].Free = n }},
	{"str", 0, 0, 40, str, func(p *api.Program, n int) { p.Strs = make([]string, n) }},
	{"str", 1, 0, 40, str, func(p *api.Program, n int) { p.Strs = make([]string, n) }},
	{"recv", 0, 0, 40, recvOf, func(p *api.Program, n int) { p.Forms = slices.Repeat([]api.Form{{Kind: api.FInt}}, n) }},
	{"recv", 1, 0, 40, recvOf, func(p *api.Program, n int) { p.Forms = slices.Repeat([]api.Form{{Kind: api.FInt}}, n) }},
	{"close", 0, 2, 60, func(a int) api.Ins { return shut(a, 2) }, hasFuncs},
	{"close", 1, 2, 60, func(a int) api.Ins { return shut(a, 2) }, hasFuncs},
}

// hasFuncs gives the program so many functions, each of which, but the first, captures two.
func hasFuncs(p *api.Program, n int) {
	p.Funcs[1].Free = 2
	for len(p.Funcs) < n {
		p.Funcs = append(p.Funcs, api.Func{Locals: 1, Free: 2, Code: row(env(1), ret)})
	}
}

// around are codes in which the instruction is with a state, and without: with as many words as it takes, behind what ends, at the end.
func around(i api.Ins) [][]api.Ins {
	n, leaves := effect(i)
	return [][]api.Ins{
		row(ints(n), i, level(leaves), ret),
		row(number, ret, i),
		row(number, ret, i, number, ret),
		row(jump(2), i, number, ret),
	}
}

func TestWhatThereIs(t *testing.T) {
	for _, x := range limits {
		for n := x.from; n <= x.to; n++ {
			for _, a := range []int{0, 1, n - 2, n - 1, n, n + 1, x.to - 1} {
				if a < 0 || a >= x.to || x.name == "close" && a == 0 {
					continue
				}
				for _, l := range around(x.i(a)) {
					p := of(row(number, ret))
					x.has(&p, n)
					p.Funcs[x.f].Code = l
					if a < n {
						isRight(t, p, x.f, "")
						checks(t, p, all, api.OK)
					} else {
						refusesIn(t, "there", p, x.f)
					}
				}
				if t.Failed() {
					t.Fatalf("%s %d of %d", x.name, a, n)
				}
			}
		}
	}
}

func TestWhatAFunctionHasIsItsOwn(t *testing.T) {
	p := of(row(local(2), ret)) // three locals, and one
	p.Funcs[1].Code = row(local(0), ret)
	checks(t, p, all, api.OK)
	p.Funcs[1].Code = row(local(1), ret)
	refusesIn(t, "there", p, 1)
	p = of(row(number, ret, env(0))) // none is captured, and two
	refusesIn(t, "there", p, 0)
	isRight(t, p, 1, "[0 0] [1 0]")
	p = at(row(number, ret, jump(4), raise, raise)) // two instructions, and five
	isRight(t, p, 1, "")
	p.Funcs[0].Code = row(number, raise, jump(4))
	refusesIn(t, "there", p, 0)
	isRight(t, p, 1, "")
}

func TestHostsThatNeedNoForm(t *testing.T) {
	p := of(row(number, emit, pop, str(0), log, pop, number, number, send, ret))
	p.Forms = nil
	isRight(t, p, 0, "[0 0] [1 0] [1 0] [0 0] [1 0] [1 0] [0 0] [1 0] [2 0] [1 0]")
	checks(t, p, all, api.OK)
	refusesIn(t, "there", withCode(p, row(recv, ret)), 0)
	refusesIn(t, "there", withCode(p, row(number, ret, recv)), 0)
}

// withCode is the program with another code in its first function.
func withCode(p api.Program, l []api.Ins) api.Program {
	p = copied(p)
	p.Funcs[0].Code = l
	return p
}

func TestCloseWithAnotherB(t *testing.T) {
	for free := range 31 {
		for b := range 31 {
			p := of(row(number, ret))
			p.Funcs[1] = api.Func{Locals: 1, Free: 30 - free, Code: row(number, ret)} // not the one that is named, but for 15
			p.Funcs = append(p.Funcs, api.Func{Locals: 1, Free: free, Code: row(number, ret)})
			for f := range p.Funcs {
				for _, l := range around(shut(2, b)) {
					q := copied(p)
					q.Funcs[f].Code = l
					if b == free {
						isRight(t, q, f, "")
						checks(t, q, all, api.OK)
					} else {
						refusesIn(t, "there", q, f)
					}
				}
			}
		}
	}
}

func TestStatesOfInstructionsWithoutOne(t *testing.T) {
	takes(t, row(number, ret, number, number, number, add, tail, pop, pop, pop), "[0 0] [1 0]"+strings.Repeat(" [-1 -1]", 8))
	takes(t, row(jump(3), untry, try(1), number, ret), "[0 0] [-1 -1] [-1 -1] [0 0] [1 0]")
	takes(t, row(number, raise, jump(0)), "[0 0] [1 0] [-1 -1]")                 // it leads to one with a state
	takes(t, row(number, raise, number, jump(1)), "[0 0] [1 0] [-1 -1] [-1 -1]") // and would to another state
	takes(t, row(number, number, tail, try(3), jump(3), untry), "[0 0] [1 0] [2 0] [-1 -1] [-1 -1] [-1 -1]")
	takes(t, row(jump(0), slices.Repeat([]api.Ins{pop}, 599)), "[0 0]"+strings.Repeat(" [-1 -1]", 599))
}

func TestStatesOfNoFunction(t *testing.T) {
	for _, n := range []int{1, 2, 3, 59, 60} {
		p := api.Program{Funcs: slices.Repeat([]api.Func{{Locals: 1, Code: row(number, ret)}}, n)}
		for f := range n {
			isRight(t, p, f, "[0 0] [1 0]")
		}
		for _, f := range []int{math.MinInt, -1 << 62, -1 << 32, -256, -n - 1, -n, -2, -1, n, n + 1, 60, 61, 256, 1 << 31, 1 << 32, 1<<32 + 1, 1 << 60, 1 << 62, math.MaxInt} {
			isNotRight(t, p, f)
		}
	}
}

func TestAProgramInWhichOneFunctionIsNotRight(t *testing.T) {
	for n := 1; n <= 5; n++ {
		for wrong := range n {
			for _, l := range [][]api.Ins{row(pop, number, ret), row(ret), row(number, ret, str(0)), row(number)} {
				p := api.Program{Funcs: slices.Repeat([]api.Func{{Locals: 1, Code: row(number, ret)}}, n)}
				checks(t, p, 0, api.OK)
				p.Funcs[wrong].Code = l
				checks(t, p, all, api.ErrCode)
				for f := range n {
					if f == wrong {
						isNotRight(t, p, f)
					} else {
						isRight(t, p, f, "[0 0] [1 0]")
					}
				}
			}
		}
	}
}

// asking is a program that asks of the host all whose bits are set, in that function, in an instruction with a state, or without.
func asking(bits, f int, without bool) api.Program {
	var l []api.Ins
	for call := range api.Hosts {
		if bits>>call&1 == 1 {
			l = append(l, row(number, number, api.Ins{Op: api.OHost, A: call})...)
			l = append(l, level(3-[4]int{1, 1, 2, 0}[call])...)
			l = append(l, pop)
		}
	}
	if without {
		l = row(number, ret, l)
	}
	p := of(row(number, ret))
	p.Funcs[f].Code = row(l, number, ret)
	return p
}

func TestGrants(t *testing.T) {
	for bits := range 16 {
		for f := range 2 {
			for _, without := range []bool{false, true} {
				p := asking(bits, f, without)
				if n := verify.Calls(p); n != bits {
					t.Errorf("Calls(%s) = %d, want %d", told(p), n, bits)
				}
				isRight(t, p, f, "")
				for grants := range 16 {
					want := api.OK
					if bits&grants != bits {
						want = api.ErrGrant
					}
					for _, more := range []int{0, 16, 32, 240, 1 << 31, 1 << 32, 1 << 62, 1<<62 - 16, -16, math.MinInt} { // other bits
						checks(t, p, grants|more, want)
					}
				}
				checks(t, p, -1, api.OK)
				checks(t, p, math.MaxInt, api.OK)
			}
		}
	}
}

func TestGrantsOfAllFunctions(t *testing.T) {
	p := of(row(number, emit, ret))
	p.Funcs[1].Code = row(recv, ret, log)
	p.Funcs = append(p.Funcs, api.Func{Locals: 1, Code: row(number, ret, ret, emit, emit)})
	if n := verify.Calls(p); n != 11 {
		t.Errorf("Calls = %d", n)
	}
	for grants := range 32 {
		want := api.OK
		if grants&11 != 11 {
			want = api.ErrGrant
		}
		checks(t, p, grants, want)
	}
}

// That a function is right doesn't hang on what it may ask.
func TestStatesOfWhatIsNotGranted(t *testing.T) {
	takes(t, row(recv, recvOf(1), send, emit, log, ret), "[0 0] [1 0] [2 0] [1 0] [1 0] [1 0]")
}

func TestAFaultBesideACallThatIsNotGranted(t *testing.T) {
	fault := row(pop, number, ret)
	asks := row(number, emit, ret)
	for _, x := range []struct{ first, second []api.Ins }{
		{fault, asks}, {asks, fault},
		{row(number, emit, add, ret), row(number, ret)}, {row(number, emit, ret, str(2)), row(number, ret)},
		{row(number, ret), row(number, emit)}, {row(emit), row(number, ret)},
		{row(number, ret, str(2), emit), row(number, ret)}, {row(number, ret, emit, str(2)), row(number, ret)},
		{row(number, emit, ret), row(number, ret, api.Ins{Op: api.OHost, A: 4})}, // it may not even be
	} {
		p := of(x.first)
		p.Funcs[1].Code = x.second
		for _, grants := range []int{0, 2, 14, 1, all, -2, -1} {
			checks(t, p, grants, api.ErrCode)
		}
	}
	checks(t, of(asks), 0, api.ErrGrant)
	checks(t, of(asks), 14, api.ErrGrant)
	checks(t, of(asks), -2, api.ErrGrant)
}

func TestCallsOfWhatIsNotRight(t *testing.T) {
	for l, want := range map[*api.Ins]int{&emit: 1, &log: 2, &send: 4, &recv: 8, &number: 0} {
		p := of(row(*l)) // it takes more than there is, or goes on behind the end
		if n := verify.Calls(p); n != want {
			t.Errorf("Calls(%s) = %d, want %d", told(p), n, want)
		}
		checks(t, p, all, api.ErrCode)
		p.Funcs[1].Code = []api.Ins{{Op: api.Ops}} // it may not be
		if n := verify.Calls(p); n != 0 {
			t.Errorf("Calls(%s) = %d, want 0", told(p), n)
		}
	}
	p := of(row(recvOf(30), emit)) // a form that there is not
	if n := verify.Calls(p); n != 9 {
		t.Errorf("Calls(%s) = %d, want 9", told(p), n)
	}
	if n := verify.Calls(api.Program{}); n != 0 {
		t.Errorf("Calls of no program = %d", n)
	}
}

func TestTheGreatestProgram(t *testing.T) {
	p := api.Program{Strs: make([]string, 40), Forms: slices.Repeat([]api.Form{{Kind: api.FUnit}}, 40)}
	for f := range 60 {
		l := row(ints(100), pops(100), ints(100), pops(99), pop, local(59), set(59), str(39), pop, recvOf(39), pop, ints(30), shut(59, 30), pop)
		l = row(l, slices.Repeat([]api.Ins{number, jumpz(0)}, (600-len(l))/2-1), jump(0))
		for len(l) < 600 {
			l = append(l, pop)
		}
		p.Funcs = append(p.Funcs, api.Func{Locals: 60, Free: min(f, 1) * 30, Code: l})
	}
	checks(t, p, 8, api.OK)
	checks(t, p, 7, api.ErrGrant)
	isRight(t, p, 59, "")
	if x := plainOf(p, 59, false); x.fault() != "" {
		t.Error(x.fault())
	}
	p.Funcs[59].Code[599] = untry
	checks(t, p, 8, api.OK)
	p.Funcs[59].Code[598] = untry
	p.Funcs[59].Code[599] = raise
	checks(t, p, 8, api.ErrCode)
}

func TestNilAndEmptyAreOne(t *testing.T) {
	p := api.Program{Funcs: []api.Func{{Code: row(number, ret)}}}
	q := copied(p)
	q.Strs, q.Forms = []string{}, []api.Form{}
	for _, x := range []api.Program{p, q} {
		isRight(t, x, 0, "[0 0] [1 0]")
		checks(t, x, 0, api.OK)
		checks(t, withCode(x, row(str(0), ret)), 0, api.ErrCode)
	}
	checks(t, api.Program{Funcs: []api.Func{}}, 0, api.ErrCode)
}

func TestAnswersShareNothing(t *testing.T) {
	p := of(row(try(3), untry, jump(0), raise, pop))
	want := "[[0 0] [0 1] [0 0] [1 0] [-1 -1]]"
	a, _ := verify.States(p, 0)
	b, _ := verify.States(p, 0)
	a = a[:cap(a)]
	for k := range a {
		a[k] = [2]int{77, 77}
	}
	c, _ := verify.States(p, 0)
	if fmt.Sprint(b) != want || fmt.Sprint(c) != want {
		t.Errorf("%v and %v, want %s", b, c, want)
	}
	p.Funcs[0].Code[0] = pop
	if fmt.Sprint(b) != want {
		t.Errorf("%v, want %s", b, want)
	}
}

func TestRoomBehindArgumentsStays(t *testing.T) {
	p := of(row(number, ret))
	l := append(row(number, ret), pop, pop)
	funcs := append(p.Funcs, api.Func{Locals: 77}, api.Func{Locals: 77})
	p.Funcs = funcs[:2]
	p.Funcs[0].Code = l[:2]
	isRight(t, p, 0, "[0 0] [1 0]")
	checks(t, p, 0, api.OK)
	verify.Calls(p)
	if l[2] != pop || l[3] != pop || funcs[2].Locals != 77 || funcs[3].Locals != 77 {
		t.Error("what stood behind is changed")
	}
}
