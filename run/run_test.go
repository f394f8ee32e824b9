package run_test

import (
	"math"
	"slices"
	"testing"

	"stockpot/api"
	"stockpot/object"
	"stockpot/run"
	"stockpot/word"
)

// ins is an instruction.
func ins(op int, ab ...int) api.Ins {
	ab = append(ab, 0, 0)
	return api.Ins{Op: op, A: ab[0], B: ab[1]}
}

func host(call int) api.Ins { return ins(api.OHost, call) }

var ret, pop = ins(api.ORet), ins(api.OPop)

// program is one of a function with so many locals; it has a few texts, and the forms int and list of int.
func program(locals int, code ...api.Ins) api.Program {
	return api.Program{
		Funcs: []api.Func{{Locals: locals, Code: code}},
		Strs:  []string{"salt", "a text of nineteen."},
		Forms: []api.Form{{Kind: api.FInt}, {Kind: api.FList, A: 0}},
	}
}

// called is a program that calls a closure of its second function, which has one local and that code.
func called(code ...api.Ins) api.Program {
	p := program(0, ins(api.OClose, 1, 0), ins(api.OInt), ins(api.OCall), ret)
	p.Funcs = append(p.Funcs, api.Func{Locals: 1, Code: code})
	return p
}

// list is the message of a list of numbers.
func list(l ...int64) api.Message {
	var m api.Message
	for _, n := range l {
		m = append(m, api.Cell{Kind: api.Block, Tag: 1, N: 2}, api.Cell{N: n})
	}
	return append(m, api.Cell{})
}

// mail is the reply that hands a message.
func mail(m api.Message) api.Reply { return api.Reply{Mail: m} }

func number(n int64) api.Message { return api.Message{{N: n}} }

var none = api.Reply{None: true}

// ends runs the machine, with much fuel, and expects what it comes to; only the State of the machine, and what it was halted with, or raised, is held against that of want.
func (x *bench) ends(t *testing.T, r []api.Reply, want api.Ran) api.Ran {
	t.Helper()
	y, ok := x.run(t, 10000, r)
	if !ok || y.M.State != want.M.State || y.M.Code != want.M.Code || want.M.State == api.Halted && y.M.Result != want.M.Result || y.Used != want.Used || y.Had != want.Had || !slices.EqualFunc(y.Asks, want.Asks, sameAsk) || y.Waits != want.Waits || y.Short != want.Short {
		t.Errorf("%v comes to %v, %t, want %v", x.p, y, ok, want)
	}
	return y
}

// P13.1: where a run ends

func TestAProgramThatCallsItself(t *testing.T) {
	self := []api.Ins{ins(api.OSelf), ins(api.OLocal), ins(api.OTail)}
	for _, fuel := range []int{0, 1, 2, 3, 4, 5, 100, 1000, 5003} {
		x := begun(api.MinHalf, 0, called(self...))
		want := fuel
		if fuel == 1 { // a closure of no words takes one, and costs 2
			want = 0
		}
		y, ok := x.run(t, fuel, nil)
		if !ok || !y.Short || y.M.State != api.Ready || y.Used != want || len(y.M.Frames) > 2 {
			t.Errorf("with %d of fuel it comes to %v, %t", fuel, y, ok)
		}
	}
	// With a call that is not a tail its frames come to an end, 58 calls behind the first one.
	x := begun(api.MinHalf, 1, called(append(self[:2:2], ins(api.OCall), ret)...))
	y := x.ends(t, nil, api.Ran{M: api.Machine{State: api.TooDeep}, Used: 4 + 58*3 + 3})
	if len(y.M.Frames) != api.MaxFrames || len(y.M.Stack) != 59+2 {
		t.Errorf("it ends with %d frames, %d words", len(y.M.Frames), len(y.M.Stack))
	}
	if y, _ := begun(api.MinHalf, 1, x.p).run(t, 4+58*3+2, nil); !y.Short || y.M.State != api.Ready {
		t.Errorf("with less fuel it comes to %v", y)
	}
}

func TestHalted(t *testing.T) {
	x := begun(12, 0, program(1, ins(api.OInt, 3), ins(api.OSet), ins(api.OInt, 4), ins(api.OLocal), ins(api.OAdd), ret))
	y := x.ends(t, nil, api.Ran{M: api.Machine{State: api.Halted, Result: word.Int(7)}, Used: 6})
	if len(y.M.Stack) != 0 || len(y.M.Frames) != 0 {
		t.Errorf("it halts with %v", y.M)
	}
	x.none(t)
	// A Str of four bytes takes two words, and costs 3.
	x = begun(12, 1, program(0, ins(api.OStr, 0), ret))
	y = x.ends(t, nil, api.Ran{M: api.Machine{State: api.Halted, Result: word.Place(12)}, Used: 4})
	if o, ok := object.Get(x.a, y.M.Heap, y.M.Result); !ok || o.Text != "salt" {
		t.Errorf("the result is %v, %t", o, ok)
	}
	x = begun(12, 1, program(0, ins(api.OInt, -5), host(api.HEmit), ret))
	x.ends(t, []api.Reply{{}}, api.Ran{M: api.Machine{State: api.Halted, Result: word.Int(0)}, Used: 3, Had: 1, Asks: []api.Ask{{N: -5}}})
}

func TestRaised(t *testing.T) {
	x := begun(12, 0, program(0, ins(api.OInt, -30), ins(api.ORaise)))
	y := x.ends(t, nil, api.Ran{M: api.Machine{State: api.Raised, Code: -30}, Used: 2})
	if len(y.M.Stack) != 0 || len(y.M.Frames) != 0 {
		t.Errorf("it was raised with %v", y.M)
	}
	x.none(t)
	x = begun(12, 0, program(0, ins(api.OInt, 5), host(api.HEmit), ins(api.OInt, 0), ins(api.ODiv), ret))
	x.ends(t, []api.Reply{{}, {}}, api.Ran{M: api.Machine{State: api.Raised, Code: api.RDiv}, Used: 4, Had: 1, Asks: []api.Ask{{N: 5}}})
	// What a handler takes on is no end.
	x = begun(12, 0, program(0, ins(api.OTry, 4), ins(api.OInt, 9), ins(api.ORaise), ret, ins(api.OInt, 2), ins(api.OMul), ret))
	x.ends(t, nil, api.Ran{M: api.Machine{State: api.Halted, Result: word.Int(18)}, Used: 6})
}

func TestBroken(t *testing.T) {
	x := begun(12, 0, program(0, ins(api.OInt, 6), host(api.HEmit), ins(api.OField, 2), ret))
	y := x.ends(t, []api.Reply{{}, {}}, api.Ran{M: api.Machine{State: api.Broken}, Used: 3, Had: 1, Asks: []api.Ask{{N: 6}}})
	if !slices.Equal(y.M.Stack, []uint64{1}) || len(y.M.Frames) != 1 || y.M.Frames[0].PC != 2 {
		t.Errorf("it is broken with %v", y.M)
	}
	x.none(t)
	begun(12, 0, program(0, pop)).ends(t, nil, api.Ran{M: api.Machine{State: api.Broken}, Used: 1})
	begun(12, 0, program(0, host(api.HLog), ret)).ends(t, []api.Reply{{}}, api.Ran{M: api.Machine{State: api.Broken}, Used: 1})
}

func TestTooDeep(t *testing.T) {
	x := begun(12, 0, program(3, ins(api.OInt, 4), ins(api.OJump, 0)))
	y := x.ends(t, nil, api.Ran{M: api.Machine{State: api.TooDeep}, Used: 2*(api.MaxStack-3) + 1})
	if len(y.M.Stack) != api.MaxStack || y.M.Frames[0].PC != 0 {
		t.Errorf("it is too deep with %v", y.M)
	}
	x.none(t)
	// A recv that would lay its word too high asks not.
	x = begun(12, 0, program(0, ins(api.OInt, 1), host(api.HEmit), host(api.HRecv), ins(api.OJump, 2)))
	want := api.Ran{M: api.Machine{State: api.TooDeep}, Used: 2 + 2*(api.MaxStack-1) + 1, Had: api.MaxStack, Asks: append([]api.Ask{{N: 1}}, slices.Repeat([]api.Ask{{Call: api.HRecv}}, api.MaxStack-1)...)}
	x.ends(t, slices.Repeat([]api.Reply{mail(number(8))}, 500), want)
	begun(12, 0, program(0, ins(api.OTry), ins(api.OJump, 0))).ends(t, nil, api.Ran{M: api.Machine{State: api.TooDeep}, Used: 2*api.MaxHandlers + 1})
}

func TestNoWords(t *testing.T) {
	grows := program(1, ins(api.OInt, 1), ins(api.OLocal), ins(api.OBlock, 1, 2), ins(api.OSet), ins(api.OJump, 0))
	for space := range 2 {
		x := begun(8, space, grows)
		// Two rounds at 8 make two blocks of 3 words; the third one is asked for in vain.
		y := x.ends(t, nil, api.Ran{M: api.Machine{State: api.NoWords}, Used: 2*8 + 3})
		if y.M.Heap != (api.Heap{Base: ahead, Half: 8, Space: 1 - space, Top: 6}) || len(y.M.Stack) != 3 || y.M.Frames[0].PC != 2 {
			t.Errorf("it has no words with %v", y.M)
		}
		x.none(t)
	}
	// What nobody leads to any more is no reason to end.
	grows.Funcs[0].Code[3] = pop
	if y, ok := begun(8, 0, grows).run(t, 9000, nil); !ok || !y.Short || y.Used != 9000 {
		t.Errorf("it comes to %v", y)
	}
	// A message that has no room ends the run that it was had in.
	x := begun(8, 0, program(0, ins(api.OInt, 2), host(api.HEmit), ins(api.OHost, api.HRecv, 1), ret))
	x.ends(t, []api.Reply{{}, mail(list(1, 2, 3)), {}}, api.Ran{M: api.Machine{State: api.NoWords}, Used: 3, Had: 2, Asks: []api.Ask{{N: 2}, {Call: api.HRecv, Form: 1}}})
}

func TestBlockedBehindAnAnswer(t *testing.T) {
	p := program(0, ins(api.OInt, 2), host(api.HEmit), host(api.HRecv), ins(api.OAdd), ret)
	x := begun(8, 0, p)
	y := x.ends(t, []api.Reply{{}, none, mail(number(4))}, api.Ran{M: api.Machine{State: api.Blocked}, Used: 3, Had: 2, Asks: []api.Ask{{N: 2}, {Call: api.HRecv}}})
	if !slices.Equal(y.M.Stack, []uint64{1}) || y.M.Frames[0].PC != 2 {
		t.Errorf("it is blocked with %v", y.M)
	}
	// So is one whose fuel is just behind it: it is not Short.
	if y, _ := begun(8, 0, p).run(t, 3, []api.Reply{{}, none}); y.M.State != api.Blocked || y.Short || y.Waits || y.Used != 3 || y.Had != 2 {
		t.Errorf("with just enough fuel it comes to %v", y)
	}
}

// P13.1: machines that go on from Blocked

func TestFromBlocked(t *testing.T) {
	p := program(0, host(api.HRecv), host(api.HRecv), ins(api.OAdd), ret)
	blocked := func() *bench {
		x := begun(8, 1, p)
		x.ends(t, []api.Reply{none}, api.Ran{M: api.Machine{State: api.Blocked}, Used: 1, Had: 1, Asks: []api.Ask{{Call: api.HRecv}}})
		return x
	}
	two := []api.Ask{{Call: api.HRecv}, {Call: api.HRecv}}
	blocked().ends(t, []api.Reply{mail(number(5)), mail(number(6))}, api.Ran{M: api.Machine{State: api.Halted, Result: word.Int(11)}, Used: 4, Had: 2, Asks: two})
	blocked().ends(t, []api.Reply{mail(number(5)), none}, api.Ran{M: api.Machine{State: api.Blocked}, Used: 2, Had: 2, Asks: two})
	blocked().ends(t, []api.Reply{mail(number(5))}, api.Ran{Used: 2, Had: 1, Asks: two, Waits: true})
	blocked().ends(t, []api.Reply{none, none}, api.Ran{M: api.Machine{State: api.Blocked}, Used: 1, Had: 1, Asks: two[:1]})
	blocked().ends(t, []api.Reply{mail(list(1))}, api.Ran{M: api.Machine{State: api.Raised, Code: api.RShape}, Used: 1, Had: 1, Asks: two[:1]})
	x := blocked()
	was := x.m
	x.ends(t, nil, api.Ran{M: api.Machine{State: api.Blocked}, Used: 1, Asks: two[:1], Waits: true})
	for _, fuel := range []int{0, -1, math.MinInt} {
		if y, ok := x.run(t, fuel, []api.Reply{mail(number(1))}); !ok || !y.Short || y.Used != 0 || len(y.Asks) != 0 {
			t.Errorf("with %d of fuel it comes to %v, %t", fuel, y, ok)
		}
	}
	if !same(x.m, was) {
		t.Errorf("it was %v, and is now %v", was, x.m)
	}
}

func TestFromBlockedWhereNothingIsReceived(t *testing.T) {
	x := begun(8, 0, program(0, ins(api.OInt, 7), host(api.HEmit), ret))
	x.m.State = api.Blocked
	y := x.twin().ends(t, nil, api.Ran{Used: 2, Asks: []api.Ask{{N: 7}}, Waits: true})
	if y.M.State != api.Ready || y.M.Frames[0].PC != 1 {
		t.Errorf("it waits with %v", y.M)
	}
	x.m.Stack, x.m.Frames[0].PC = []uint64{word.Int(8)}, 1
	x.twin().ends(t, nil, api.Ran{M: api.Machine{State: api.Blocked}, Used: 1, Asks: []api.Ask{{N: 8}}, Waits: true})
	x.ends(t, []api.Reply{{}}, api.Ran{M: api.Machine{State: api.Halted, Result: 1}, Used: 2, Had: 1, Asks: []api.Ask{{N: 8}}})
}

// P13.1: machines of which Run tells nothing

func TestStates(t *testing.T) {
	for _, code := range [][]api.Ins{{ins(api.OInt, 1), ret}, {host(api.HRecv), ret}, {ins(api.OInt, 1), host(api.HEmit), ret}, {pop}} {
		for state := -2; state <= api.Killed+2; state++ {
			x := begun(8, 0, program(0, code...))
			if x.m.State = state; state == api.Ready || state == api.Blocked {
				if y, ok := x.run(t, 10, nil); !ok || y.Used == 0 {
					t.Errorf("in State %d it comes to %v, %t", state, y, ok)
				}
				continue
			}
			x.none(t)
			if state == api.Raised {
				x.m.Code = 4
				x.none(t)
			}
			x.m.Frames = nil
			x.none(t)
		}
	}
}

func TestMachinesThatMayNotBe(t *testing.T) {
	changes := []func(x *bench){
		func(x *bench) { x.a = nil },
		func(x *bench) { x.m = api.Machine{} },
		func(x *bench) { x.m.Frames = nil },
		func(x *bench) { x.m.Frames[0].PC = 3 },
		func(x *bench) { x.m.Frames[0].PC = -1 },
		func(x *bench) { x.m.Frames[0].Func = 1 },
		func(x *bench) { x.m.Frames[0].Func = math.MinInt },
		func(x *bench) { x.m.Frames[0].Base = 1 },
		func(x *bench) { x.m.Frames[0].Base = math.MaxInt },
		func(x *bench) { x.m.Frames[0].Self = word.Place(0) },
		func(x *bench) { x.m.Frames = slices.Repeat(x.m.Frames, api.MaxFrames+1) },
		func(x *bench) { x.m.Stack = nil },
		func(x *bench) { x.m.Stack[0] = word.Place(1) },
		func(x *bench) { x.m.Stack = slices.Repeat(x.m.Stack, api.MaxStack+1) },
		func(x *bench) { x.m.Handlers = []api.Handler{{}} },
		func(x *bench) { x.m.Handlers = []api.Handler{{Frame: 1}} },
		func(x *bench) { x.m.Handlers = []api.Handler{{Frame: 1, Height: 1, PC: 3}} },
		func(x *bench) {
			x.m.Handlers = slices.Repeat([]api.Handler{{Frame: 1, Height: 1}}, api.MaxHandlers+1)
		},
		func(x *bench) { x.m.Result = word.Int(1) },
		func(x *bench) { x.m.Result = 0 },
		func(x *bench) { x.m.Code = 1 },
		func(x *bench) { x.m.Heap.Base++ },
		func(x *bench) { x.m.Heap.Half++ },
		func(x *bench) { x.m.Heap.Space = 2 },
		func(x *bench) { x.m.Heap.Top = 1 },
		func(x *bench) { x.m.Heap = api.Heap{} },
		func(x *bench) { x.a.Free(ahead) },
		func(x *bench) { x.p = api.Program{} },
		func(x *bench) { x.p.Funcs[0].Free = 1 },
		func(x *bench) { x.p.Funcs[0].Code[2] = ins(api.Ops) },
		func(x *bench) { x.p.Forms[0].Kind = 0 },
	}
	for i, change := range changes {
		for state := range 2 {
			x := begun(8, state, program(1, ins(api.OInt, 1), host(api.HEmit), ret))
			x.m.State = state
			if y, ok := x.twin().run(t, 10, nil); !ok || !y.Waits {
				t.Fatalf("unchanged it comes to %v, %t", y, ok)
			}
			change(x)
			x.none(t)
			if _, ok := x.run(t, 10, nil); ok {
				t.Errorf("there is an answer behind change %d", i)
			}
		}
	}
}

// P13.1: fuel

// mixed has instructions of several costs, and all of the host's calls.
func mixed() api.Program {
	return program(1,
		ins(api.OInt, 2), ins(api.OBlock, 0, 1), ins(api.OSet), // two words
		ins(api.OInt, 5), host(api.HEmit), pop,
		ins(api.OInt, 3), ins(api.OStr, 0), host(api.HSend), pop, // two words
		host(api.HRecv), ins(api.OStr, 1), host(api.HLog), ins(api.OAdd), // four words
		ret)
}

// costs are those of mixed's instructions.
var costs = []int{1, 3, 1, 1, 1, 1, 1, 3, 1, 1, 1, 5, 1, 1, 1}

func TestFuel(t *testing.T) {
	replies := []api.Reply{{}, {N: 1}, mail(number(30)), {}}
	all := 0
	for _, n := range costs {
		all += n
	}
	x := begun(20, 0, mixed())
	whole := x.ends(t, replies, api.Ran{M: api.Machine{State: api.Halted, Result: word.Int(30)}, Used: all, Had: 4, Asks: []api.Ask{{N: 5}, {Call: api.HSend, N: 3, Mail: api.Message{{Kind: api.Str, Text: "salt"}}}, {Call: api.HRecv}, {Call: api.HLog, Text: "a text of nineteen."}}})
	for fuel := -2; fuel <= all+2; fuel++ {
		used, pc := 0, 0
		for pc < len(costs) && used+costs[pc] <= fuel {
			used += costs[pc]
			pc++
		}
		asks := 0
		for _, i := range mixed().Funcs[0].Code[:pc] {
			if i.Op == api.OHost {
				asks++
			}
		}
		y, ok := begun(20, 0, mixed()).run(t, fuel, replies)
		if !ok || y.Used != used || y.Short != (fuel < all) || y.Waits || y.Had != asks || !slices.EqualFunc(y.Asks, whole.Asks[:asks], sameAsk) {
			t.Errorf("with %d of fuel it comes to %v, %t", fuel, y, ok)
		}
		if fuel >= all && !same(y.M, whole.M) || fuel < all && (y.M.State != api.Ready || y.M.Frames[0].PC != pc) {
			t.Errorf("with %d of fuel it comes to %v", fuel, y.M)
		}
	}
	for _, fuel := range []int{math.MinInt, math.MinInt + 1, -all, -1, 0} {
		y, ok := begun(20, 0, mixed()).run(t, fuel, replies)
		if !ok || !y.Short || !same(y.M, begun(20, 0, mixed()).m) || y.Used != 0 || y.Had != 0 || len(y.Asks) != 0 {
			t.Errorf("with %d of fuel it comes to %v, %t", fuel, y, ok)
		}
	}
	if y, ok := begun(20, 0, mixed()).run(t, math.MaxInt, replies); !ok || !sameRan(y, whole) {
		t.Errorf("with all fuel it comes to %v, %t", y, ok)
	}
}

func TestFuelAtWhatAsks(t *testing.T) {
	p := program(0, ins(api.OInt, 5), host(api.HEmit), ret)
	for _, c := range []struct {
		fuel    int
		replies []api.Reply
		want    api.Ran
		pc      int
	}{
		{1, nil, api.Ran{Used: 1, Short: true}, 1},
		{1, []api.Reply{{}}, api.Ran{Used: 1, Short: true}, 1},
		{2, nil, api.Ran{Used: 2, Asks: []api.Ask{{N: 5}}, Waits: true}, 1},
		{2, []api.Reply{{}}, api.Ran{Used: 2, Asks: []api.Ask{{N: 5}}, Had: 1, Short: true}, 2},
		{2, []api.Reply{{}, {}}, api.Ran{Used: 2, Asks: []api.Ask{{N: 5}}, Had: 1, Short: true}, 2},
		{3, nil, api.Ran{Used: 2, Asks: []api.Ask{{N: 5}}, Waits: true}, 1},
	} {
		x := begun(8, 0, p)
		y, ok := x.run(t, c.fuel, c.replies)
		c.want.M = y.M
		if !ok || !sameRan(y, c.want) || y.M.State != api.Ready || y.M.Frames[0].PC != c.pc {
			t.Errorf("with %d of fuel, %d replies it comes to %v, %t", c.fuel, len(c.replies), y, ok)
		}
	}
}

// P13.1: asks and replies

func TestWaits(t *testing.T) {
	replies := []api.Reply{{}, {N: 1}, mail(number(30)), {}, {}, {}}
	x := begun(20, 1, mixed())
	whole, _ := x.twin().run(t, 99, replies)
	if whole.Had != 4 {
		t.Fatalf("with more replies than it asks for it comes to %v", whole)
	}
	at := []int{4, 8, 10, 12} // of what asks
	for had := range 4 {
		y, ok := x.twin().run(t, 99, replies[:had])
		used := 0
		for _, n := range costs[:at[had]+1] {
			used += n
		}
		if !ok || !y.Waits || y.Short || y.Had != had || y.Used != used || !slices.EqualFunc(y.Asks, whole.Asks[:had+1], sameAsk) {
			t.Errorf("with %d replies it comes to %v, %t", had, y, ok)
		}
		// The machine is as it was when it asked: as one is whose fuel ends just ahead of it.
		before, _ := x.twin().run(t, used-1, replies[:had])
		if !before.Short || !same(before.M, y.M) || y.M.Frames[0].PC != at[had] {
			t.Errorf("with %d replies it waits with %v, and asked with %v", had, y.M, before.M)
		}
	}
	if y, ok := x.twin().run(t, 99, replies[:4]); !ok || !sameRan(y, whole) {
		t.Errorf("with just enough replies it comes to %v, %t", y, ok)
	}
}

func TestAskedAgain(t *testing.T) {
	x := begun(8, 0, program(0, ins(api.OInt, 5), host(api.HEmit), ret))
	x.ends(t, nil, api.Ran{Used: 2, Asks: []api.Ask{{N: 5}}, Waits: true})
	x.ends(t, nil, api.Ran{Used: 1, Asks: []api.Ask{{N: 5}}, Waits: true})
	x.ends(t, []api.Reply{{}}, api.Ran{M: api.Machine{State: api.Halted, Result: 1}, Used: 2, Had: 1, Asks: []api.Ask{{N: 5}}})
}

func TestNoAsks(t *testing.T) {
	x := begun(8, 0, program(0, ins(api.OInt, 5), ret))
	x.ends(t, []api.Reply{{N: 3}, none}, api.Ran{M: api.Machine{State: api.Halted, Result: word.Int(5)}, Used: 2})
	// An array can't be sent: the send is done, and asks for nothing.
	x = begun(8, 0, program(0, ins(api.OInt, 5), ins(api.OInt, 2), ins(api.OInt, 2), ins(api.OArray), host(api.HSend), ret))
	x.ends(t, nil, api.Ran{M: api.Machine{State: api.Halted, Result: 1}, Used: 3 + 4 + 2})
}

func TestEachCallInOrder(t *testing.T) {
	p := program(1,
		ins(api.OInt, 1), ins(api.OInt, 0), ins(api.OBlock, 1, 2), ins(api.OSet),
		ins(api.OStr, 0), host(api.HLog), pop,
		ins(api.OInt, 8), ins(api.OLocal), host(api.HSend), pop,
		ins(api.OHost, api.HRecv, 1), ins(api.OSet),
		ins(api.OInt, -9), ins(api.OLocal), host(api.HSend),
		ins(api.OInt, 77), host(api.HEmit), pop,
		host(api.HRecv), ins(api.OAdd), ret)
	asks := []api.Ask{
		{Call: api.HLog, Text: "salt"},
		{Call: api.HSend, N: 8, Mail: list(1)},
		{Call: api.HRecv, Form: 1},
		{Call: api.HSend, N: -9, Mail: list(2, 3)},
		{Call: api.HEmit, N: 77},
		{Call: api.HRecv},
	}
	for sent := range int64(3) {
		x := begun(40, 0, p)
		r := []api.Reply{{N: 5}, {N: 0}, mail(list(2, 3)), {N: sent}, {N: 5, None: true}, mail(number(10)), none}
		result := word.Int(10 + min(sent, 1))
		x.ends(t, r, api.Ran{M: api.Machine{State: api.Halted, Result: result}, Used: len(p.Funcs[0].Code) + 3 + 2, Had: 6, Asks: asks})
	}
}

func TestRepliesToARecv(t *testing.T) {
	p := program(0, ins(api.OTry, 4), ins(api.OHost, api.HRecv, 1), ins(api.OUntry), ret, ret)
	asks := []api.Ask{{Call: api.HRecv, Form: 1}}
	x := begun(8, 0, p)
	y := x.ends(t, []api.Reply{mail(list(6, 7))}, api.Ran{M: api.Machine{State: api.Halted, Result: word.Place(0)}, Used: 4, Had: 1, Asks: asks})
	if y.M.Heap.Top != 6 {
		t.Errorf("it halts with %v", y.M)
	}
	for _, r := range []api.Reply{{}, mail(number(1)), mail(api.Message{{Kind: api.Str, Text: "salt"}}), mail(append(list(1), api.Cell{})), mail(list(1 << 62)), {N: 4}} {
		x := begun(8, 0, p)
		x.ends(t, []api.Reply{r}, api.Ran{M: api.Machine{State: api.Halted, Result: word.Int(api.RShape)}, Used: 3, Had: 1, Asks: asks})
	}
	for _, r := range []api.Reply{none, {None: true, Mail: list(1)}, {None: true, N: 1, Mail: number(4)}} {
		x := begun(8, 0, p)
		y := x.ends(t, []api.Reply{r, mail(list(1))}, api.Ran{M: api.Machine{State: api.Blocked}, Used: 2, Had: 1, Asks: asks})
		if len(y.M.Handlers) != 1 {
			t.Errorf("it is blocked with %v", y.M)
		}
	}
}

// P13.1: what is told is nobody else's

func TestMailsAreTheirOwn(t *testing.T) {
	// One list is sent twice.
	p := program(1, ins(api.OInt, 4), ins(api.OInt, 0), ins(api.OBlock, 1, 2), ins(api.OSet), ins(api.OInt, 1), ins(api.OLocal), host(api.HSend), ins(api.OInt, 2), ins(api.OLocal), host(api.HSend), ins(api.OAdd), ret)
	x := begun(8, 0, p)
	r := []api.Reply{{N: 1}, {N: 1}}
	y := x.twin()
	first := x.ends(t, r, api.Ran{M: api.Machine{State: api.Halted, Result: word.Int(2)}, Used: 15, Had: 2, Asks: []api.Ask{{Call: api.HSend, N: 1, Mail: list(4)}, {Call: api.HSend, N: 2, Mail: list(4)}}})
	second, _ := y.run(t, 99, r)
	if shares(first.Asks, second.Asks) || shares(first.Asks[0].Mail, second.Asks[0].Mail) || shares(first.Asks[1].Mail, second.Asks[1].Mail) {
		t.Error("two answers share a list")
	}
	first.Asks[0].Mail[1].N = 9
	if first.Asks[1].Mail[1].N != 4 || second.Asks[0].Mail[1].N != 4 {
		t.Error("what one writes into a mail is seen in another one")
	}
}

func TestTwoRunsOfOneMachine(t *testing.T) {
	// The machine has all lists: a frame, a word, a handler.
	x := begun(8, 0, program(1, ins(api.OTry, 3), ins(api.OInt, 4), ins(api.ORaise), host(api.HEmit), ret))
	x.run(t, 1, nil)
	if len(x.m.Stack) == 0 || len(x.m.Frames) == 0 || len(x.m.Handlers) == 0 {
		t.Fatalf("the machine is %v", x.m)
	}
	for _, fuel := range []int{0, 1} {
		y, _ := run.Run(x.a, x.p, x.m, fuel, nil)
		z, _ := run.Run(x.a, x.p, x.m, fuel, nil)
		if !sameRan(y, z) || shares(y.M.Stack, z.M.Stack) || shares(y.M.Frames, z.M.Frames) || shares(y.M.Handlers, z.M.Handlers) {
			t.Errorf("with %d of fuel it comes to %v, and to %v", fuel, y, z)
		}
	}
	y, _ := run.Run(x.a, x.p, x.m, 2, nil)
	y.M.Stack[0], y.M.Frames[0].PC = 55, 55
	if z, ok := run.Run(x.a, x.p, x.m, 4, []api.Reply{{}}); !ok || z.M.State != api.Halted || z.M.Result != 1 {
		t.Errorf("once more it comes to %v, %t", z, ok)
	}
}

// P13.3

func TestRunAgainWithMoreFuel(t *testing.T) {
	replies := []api.Reply{{}, {N: 1}, mail(number(30)), {}}
	whole := begun(20, 0, mixed())
	all, _ := whole.run(t, 99, replies)
	words := everything(whole.a)
	for first := range all.Used + 3 {
		for second := range all.Used + 3 {
			x := begun(20, 0, mixed())
			y, _ := x.run(t, first, replies)
			if !y.Short {
				if !sameRan(y, all) {
					t.Errorf("with %d of fuel it comes to %v", first, y)
				}
				break
			}
			// What the first run had left is for the second one, too.
			both, _ := begun(20, 0, mixed()).run(t, first+second, replies)
			z, ok := x.run(t, first-y.Used+second, replies[y.Had:])
			if !ok || !sameRan(joined(y, z), both) {
				t.Errorf("with %d and %d of fuel it comes to %v", first, second, joined(y, z))
			}
			if !z.Short && !slices.EqualFunc(everything(x.a), words, slices.Equal) {
				t.Errorf("with %d and %d of fuel the arena holds %x", first, second, everything(x.a))
			}
		}
	}
}

// joined is one run, and one more behind it, as one.
func joined(x, y api.Ran) api.Ran {
	y.Used += x.Used
	y.Had += x.Had
	y.Asks = append(slices.Clone(x.Asks), y.Asks...)
	return y
}
