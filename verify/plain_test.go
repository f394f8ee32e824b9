package verify_test

import (
	"math/rand"
	"slices"
	"sort"
	"strings"
	"testing"

	"stockpot/api"
	"stockpot/code"
	"stockpot/verify"
)

// effect is what the document's table tells that the instruction takes and leaves.
func effect(i api.Ins) (takes, leaves int) {
	switch i.Op {
	case api.OInt, api.OStr, api.OLocal, api.OEnv, api.OSelf:
		return 0, 1
	case api.OSet, api.OJumpZ, api.ORet, api.ORaise, api.OPop:
		return 1, 0
	case api.OClose, api.OBlock:
		return i.B, 1
	case api.OTail:
		return 2, 0
	case api.OJump, api.OTry, api.OUntry:
		return 0, 0
	case api.OField, api.OIsInt, api.OIsTag, api.OLen, api.OSize, api.OText:
		return 1, 1
	case api.OPut:
		return 3, 1
	case api.OHost:
		return [4]int{1, 1, 2, 0}[i.A], 1
	}
	return 2, 1
}

// plain tells of a function what the document does, as plainly as can be: it goes every way that there is, through every state, and keeps all states of each instruction, and all faults.
type plain struct {
	p      api.Program
	f      api.Func
	states []map[[2]int]bool
	faults map[string]bool
	some   bool
}

// plainOf is what is told of that function of a program that may be, with all faults, or some if there are any.
func plainOf(p api.Program, f int, some bool) plain {
	x := plain{p: p, f: p.Funcs[f], some: some, states: make([]map[[2]int]bool, len(p.Funcs[f].Code)), faults: map[string]bool{}}
	for k, i := range x.f.Code {
		x.states[k] = map[[2]int]bool{}
		if !x.there(i) {
			x.faults["there"] = true
		}
	}
	x.way(0, 0, 0)
	return x
}

// there says whether there is what the instruction names.
func (x *plain) there(i api.Ins) bool {
	beyond := map[int]int{
		api.OLocal: x.f.Locals, api.OSet: x.f.Locals, api.OEnv: x.f.Free, api.OStr: len(x.p.Strs), api.OClose: len(x.p.Funcs),
		api.OJump: len(x.f.Code), api.OJumpZ: len(x.f.Code), api.OTry: len(x.f.Code),
	}
	if n, limited := beyond[i.Op]; limited && i.A >= n {
		return false
	}
	switch {
	case i.Op == api.OClose:
		return i.B == x.p.Funcs[i.A].Free
	case i.Op == api.OHost && i.A == api.HRecv:
		return i.B < len(x.p.Forms)
	}
	return true
}

// way goes on at the instruction, with a stack so high and so many handlers.
func (x *plain) way(at, height, handlers int) {
	switch {
	case x.some && len(x.faults) > 0:
	case at >= len(x.f.Code):
		x.faults["behind"] = true
	case height > 100:
		x.faults["high"] = true
	case handlers > 10:
		x.faults["handlers"] = true
	case handlers < 0:
		x.faults["below"] = true
	case !x.states[at][[2]int{height, handlers}]:
		x.states[at][[2]int{height, handlers}] = true
		if len(x.states[at]) > 1 {
			x.faults["two"] = true
		}
		x.step(x.f.Code[at], at, height, handlers)
	}
}

// step goes the ways that lead on from the instruction.
func (x *plain) step(i api.Ins, at, height, handlers int) {
	if i.Op == api.ORet && (height != 1 || handlers != 0) {
		x.faults["ret"] = true
	}
	if i.Op == api.OTail && (height != 2 || handlers != 0) {
		x.faults["tail"] = true
	}
	takes, leaves := effect(i)
	if takes > height {
		x.faults["takes"] = true
		return
	}
	height += leaves - takes
	jumps := i.Op == api.OJump || i.Op == api.OJumpZ
	if jumps && i.A < len(x.f.Code) {
		x.way(i.A, height, handlers)
	}
	if i.Op == api.OTry && i.A < len(x.f.Code) {
		x.way(i.A, height+1, handlers)
	}
	switch i.Op {
	case api.OJump, api.ORet, api.OTail, api.ORaise:
	case api.OTry:
		x.way(at+1, height, handlers+1)
	case api.OUntry:
		x.way(at+1, height, handlers-1)
	default:
		x.way(at+1, height, handlers)
	}
}

// fault is all faults, in the order of the letters.
func (x *plain) fault() string {
	var l []string
	for s := range x.faults {
		l = append(l, s)
	}
	sort.Strings(l)
	return strings.Join(l, " ")
}

// list is the states, if there are no faults.
func (x *plain) list() [][2]int {
	var l [][2]int
	for _, m := range x.states {
		s := [2]int{-1, -1}
		for s = range m {
		}
		l = append(l, s)
	}
	return l
}

// asPlain expects of the program, which may be, what is told of it plainly; it says whether its first function is right.
func asPlain(t *testing.T, p api.Program) bool {
	t.Helper()
	want, first := api.OK, false
	for f := range p.Funcs {
		x := plainOf(p, f, true)
		l, ok := verify.States(p, f)
		if len(x.faults) > 0 {
			want = api.ErrCode
			if ok || len(l) != 0 {
				t.Fatalf("States(%s, %d) = %v, %t, want none: %s", told(p), f, l, ok, x.fault())
			}
		} else if !ok || !slices.Equal(l, x.list()) {
			t.Fatalf("States(%s, %d) = %v, %t, want %v", told(p), f, l, ok, x.list())
		}
		first = first || f == 0 && ok
	}
	if e := verify.Check(p, all); e != want {
		t.Fatalf("Check(%s) = %d, want %d", told(p), e, want)
	}
	return first
}

// P8.1, P8.2

// alone is a program of one function of this code.
func alone(l []api.Ins) api.Program { return api.Program{Funcs: []api.Func{{Code: l}}} }

// each goes through all codes of so many instructions out of these.
func each(n int, from []api.Ins, one func(l []api.Ins)) {
	l := make([]api.Ins, n)
	var fill func(k int)
	fill = func(k int) {
		if k == n {
			one(l)
			return
		}
		for _, i := range from {
			l[k] = i
			fill(k + 1)
		}
	}
	fill(0)
}

func TestEachShortFunction(t *testing.T) {
	right := 0
	for n := 1; n <= 4; n++ {
		from := []api.Ins{number, pop, ret, tail, raise, untry}
		for a := range n {
			from = append(from, jump(a), jumpz(a), try(a))
		}
		each(n, from, func(l []api.Ins) {
			if asPlain(t, alone(l)) {
				right++
			}
		})
	}
	if right < 1000 {
		t.Errorf("%d right ones alone", right)
	}
}

func TestEachShortFunctionOfFewInstructions(t *testing.T) {
	right := 0
	for n := 5; n <= 6; n++ {
		each(n, []api.Ins{number, jumpz(n - 1), raise, try(n - 1), untry, jump(2), jumpz(1)}, func(l []api.Ins) {
			if asPlain(t, alone(l)) {
				right++
			}
		})
	}
	if right < 1000 {
		t.Errorf("%d right ones alone", right)
	}
}

// chance is a function that is right, of any: its instructions are laid one behind the other, at a state that is known, and the places that they lead to are chosen among those that have the state.
func chance(r *rand.Rand, n int) []api.Ins {
	var l []api.Ins
	var states [][2]int
	s := [2]int{}
	lay := func(i api.Ins) {
		takes, leaves := effect(i)
		l, states = append(l, i), append(states, s)
		s[0] += leaves - takes
	}
	kinds := straight()
	for len(l) < n {
		k := kinds[r.Intn(len(kinds))]
		switch x := r.Intn(10); {
		case x == 0 && s[1] < 10 && s[0] < 100:
			lay(try(0))
			s[1]++
		case x == 1 && s[1] > 0:
			lay(untry)
			s[1]--
		case x == 2 && s[0] > 0:
			lay(jumpz(0))
		case x == 3:
			lay(jump(0))
		case k.takes <= s[0] && s[0]+k.leaves-k.takes <= 100:
			lay(k.i)
		}
	}
	for s[1] > 0 {
		lay(untry)
		s[1]--
	}
	for _, i := range level(s[0]) {
		lay(i)
	}
	lay(ret)
	return led(r, l, states)
}

// led is the code with each jump and try led to some instruction that has the state which it comes with: of a try behind all, a raise of its own if there is no other.
func led(r *rand.Rand, l []api.Ins, states [][2]int) []api.Ins {
	for k, i := range l {
		s := states[k]
		switch i.Op {
		case api.OJumpZ:
			s[0]--
		case api.OTry:
			s[0]++
		case api.OJump:
		default:
			continue
		}
		var there []int
		for k := range states {
			if states[k] == s {
				there = append(there, k)
			}
		}
		if i.Op == api.OJump { // what is behind keeps a way that leads to it
			there = []int{k + 1}
		}
		if len(there) == 0 {
			there = []int{len(l)}
			l, states = append(l, raise), append(states, s)
		}
		l[k].A = there[r.Intn(len(there))]
	}
	return l
}

func TestLongFunctions(t *testing.T) {
	r := rand.New(rand.NewSource(8))
	for range 300 {
		l := chance(r, 1+r.Intn(300))
		if len(l) > 600 {
			continue
		}
		if !asPlain(t, of(l)) {
			t.Fatalf("%v is not right: %v", l, plainOf(of(l), 0, false).faults)
		}
	}
}

func TestLongFunctionsThatAreChanged(t *testing.T) {
	r := rand.New(rand.NewSource(81))
	kinds := straight()
	right, wrong := 0, 0
	for range 4000 {
		p := of(chance(r, 1+r.Intn(60)))
		l := p.Funcs[0].Code
		for range 1 + r.Intn(2) {
			k := r.Intn(len(l))
			switch r.Intn(4) {
			case 0:
				l[k].A = r.Intn(len(l) + 1)
			case 1:
				l[k] = kinds[r.Intn(len(kinds))].i
			case 2:
				l[k] = []api.Ins{untry, ret, tail, raise, jump(r.Intn(len(l))), try(r.Intn(len(l)))}[r.Intn(6)]
			case 3:
				l[k].B = r.Intn(4)
			}
		}
		if !code.Good(p) {
			checks(t, p, all, api.ErrCode)
		} else if asPlain(t, p) {
			right++
		} else {
			wrong++
		}
	}
	if right < 200 || wrong < 1000 {
		t.Errorf("%d right, %d not", right, wrong)
	}
}

func TestInstructionsByChance(t *testing.T) {
	r := rand.New(rand.NewSource(82))
	right := 0
	for range 60000 {
		p := of(nil)
		p.Strs, p.Forms = p.Strs[:r.Intn(3)], p.Forms[:r.Intn(3)]
		for k := range p.Funcs {
			p.Funcs[k].Locals, p.Funcs[k].Code = 1+r.Intn(3), nil
			for range 1 + r.Intn(6) {
				p.Funcs[k].Code = append(p.Funcs[k].Code, byChance(r))
			}
		}
		p.Funcs[1].Free = r.Intn(3)
		if asPlain(t, p) {
			right++
		}
	}
	if right < 100 {
		t.Errorf("%d right ones alone", right)
	}
}

// byChance is an instruction that may be.
func byChance(r *rand.Rand) api.Ins {
	for {
		i := api.Ins{Op: r.Intn(api.Ops), A: r.Intn(4), B: r.Intn(3)}
		if r.Intn(3) == 0 {
			i = []api.Ins{number, ret}[r.Intn(2)]
		}
		if code.Good(of([]api.Ins{i})) {
			return i
		}
	}
}

// P8.3

// machine is a stack that is run on: of each of its words the instruction that laid it, or that there was one ahead of the function.
type machine struct {
	t        *testing.T
	l        []api.Ins
	states   [][2]int
	stack    []int
	handlers []api.Handler
	pc       int
	thrown   int
}

// ahead is of a word that the function has not laid.
const ahead = -1

// holds expects that the machine is as the state of its instruction says.
func (m *machine) holds() bool {
	if s := [2]int{len(m.stack) - 2, len(m.handlers)}; s != m.states[m.pc] {
		m.t.Errorf("%v: at %d it is %v, and told %v", m.l, m.pc, s, m.states[m.pc])
		return false
	}
	return true
}

// one does the instruction, and says whether the function goes on.
func (m *machine) one(r *rand.Rand) bool {
	i := m.l[m.pc]
	takes, leaves := effect(i)
	for range takes {
		last := len(m.stack) - 1
		if m.stack[last] == ahead {
			m.t.Errorf("%v: at %d it takes what it didn't lay", m.l, m.pc)
			return false
		}
		m.stack = m.stack[:last]
	}
	m.stack = append(m.stack, slices.Repeat([]int{m.pc}, leaves)...)
	m.pc++
	switch i.Op {
	case api.ORet, api.OTail:
		if len(m.stack) != 2 || len(m.handlers) != 0 {
			m.t.Errorf("%v: it is left with %v, %v", m.l, m.stack, m.handlers)
		}
		return false
	case api.ORaise:
		return m.throw()
	case api.OJump:
		m.pc = i.A
	case api.OJumpZ:
		if r.Intn(2) == 0 {
			m.pc = i.A
		}
	case api.OTry:
		m.handlers = append(m.handlers, api.Handler{Height: len(m.stack), PC: i.A})
	case api.OUntry:
		m.handlers = m.handlers[:len(m.handlers)-1]
	}
	return true
}

// throw goes on at the last handler, if there is one, and the stack is not lower than it was: else it stays as it is.
func (m *machine) throw() bool {
	last := len(m.handlers) - 1
	if last < 0 || m.handlers[last].Height > len(m.stack) {
		return false
	}
	m.thrown++
	h := m.handlers[last]
	m.stack = append(m.stack[:h.Height], m.pc)
	m.handlers = m.handlers[:last]
	m.pc = h.PC
	return true
}

func TestWhatIsRightTakesWhatItLaid(t *testing.T) {
	r := rand.New(rand.NewSource(83))
	done, thrown := 0, 0
	for range 300 {
		l := chance(r, 1+r.Intn(100))
		states, ok := verify.States(of(l), 0)
		if !ok {
			t.Fatalf("%v is not right", l)
		}
		for range 10 {
			m := &machine{t: t, l: l, states: states, stack: []int{ahead, ahead}}
			for range 1000 {
				if !m.holds() || !m.one(r) {
					break
				}
				if r.Intn(20) == 0 { // what it does may raise anywhere
					m.throw()
				}
				done++
			}
			thrown += m.thrown
		}
		if t.Failed() {
			t.Fatal(l)
		}
	}
	if done < 50000 || thrown < 1000 {
		t.Errorf("%d instructions done, %d times thrown alone", done, thrown)
	}
}
