package step_test

import (
	"math"
	"reflect"
	"slices"
	"strings"
	"testing"

	"stockpot/api"
	"stockpot/object"
	"stockpot/step"
	"stockpot/word"
)

// asks expects that the instruction asks that, at a cost of 1, and that nothing changes.
func (x *bench) asks(t *testing.T, want api.Ask) {
	t.Helper()
	before := everything(x.a)
	if z := x.one(t, 1); !z.Asks || z.Short || z.Used != 1 || !sameAsk(z.Ask, want) || !same(z.M, x.m) {
		t.Errorf("%v of %v comes to %v, want it to ask %v", x.ins(), x.m, z, want)
	}
	if !reflect.DeepEqual(everything(x.a), before) {
		t.Errorf("%v of %v changed the arena", x.ins(), x.m)
	}
	x.short(t, 0)
}

// answered expects that the reply leaves these words above the frame's locals, and that no word of the heap changes.
func (x *bench) answered(t *testing.T, r api.Reply, stack ...any) {
	t.Helper()
	before := everything(x.a)
	want := cloned(x.m)
	want.Stack = append(want.Stack[:x.floor()], x.words(stack...)...)
	want.State = api.Ready
	want.Frames[len(want.Frames)-1].PC++
	if m, ok := x.answer(t, r); !ok || !same(m, want) {
		t.Errorf("%v answers %v of %v: %v, %t, want %v", r, x.ins(), x.m, m, ok, want)
	}
	if !reflect.DeepEqual(everything(x.a), before) {
		t.Errorf("%v as an answer to %v of %v changed the arena", r, x.ins(), x.m)
	}
}

// refused expects that nothing was asked that could be answered, whatever the reply.
func (x *bench) refused(t *testing.T) {
	t.Helper()
	for _, r := range []api.Reply{{}, {N: 1}, {None: true}, {Mail: api.Message{{N: 1}}}, {N: 5, Mail: api.Message{{Kind: api.Str, Text: "x"}}, None: true}} {
		before := everything(x.a)
		if m, ok := x.answer(t, r); ok || !same(m, api.Machine{}) {
			t.Errorf("%v answers %v of %v: %v, %t", r, x.ins(), x.m, m, ok)
		}
		if !reflect.DeepEqual(everything(x.a), before) {
			t.Errorf("%v as an answer to %v of %v changed the arena", r, x.ins(), x.m)
		}
	}
}

func host(call, form int) api.Ins { return api.Ins{Op: api.OHost, A: call, B: form} }

// replies are some that an emit, a log or a send may have.
var replies = []api.Reply{{}, {N: 1}, {N: -1}, {N: 2}, {N: math.MinInt64}, {N: 1 << 63 >> 1}, {None: true}, {N: 1, None: true}, {Mail: api.Message{{N: 1}}}, {Mail: api.Message{{Kind: 9}}, N: 256}}

// P12.1: OHost; P12.2: Answer

func TestEmit(t *testing.T) {
	for _, n := range []int{0, 7, -1, least, most} {
		benches(t, host(api.HEmit, 0), []any{'s', n}, func(x *bench) {
			x.asks(t, api.Ask{Call: api.HEmit, N: int64(n)})
			for _, r := range replies {
				x.answered(t, r, 's', 0)
			}
		})
	}
	for _, v := range []any{'s', 'p', 'b', 'a', 'c'} {
		benches(t, host(api.HEmit, 0), []any{4, v}, func(x *bench) { x.stays(t, api.Broken); x.refused(t) })
	}
}

func TestLog(t *testing.T) {
	for _, text := range []string{"", "a", "salt and\x00\xff pepper", strings.Repeat("~", api.MaxBytes)} {
		x := innerOf(t, 100, 1, host(api.HLog, 0), 'p')
		x.m.Stack = append(x.m.Stack, x.put(t, api.Object{Kind: api.Str, Text: text}))
		x.asks(t, api.Ask{Call: api.HLog, Text: text})
		for _, r := range replies {
			x.answered(t, r, 'p', 0)
		}
	}
	for _, v := range []any{0, 4, 'p', 'b', 'a', 'c'} {
		benches(t, host(api.HLog, 0), []any{'s', v}, func(x *bench) { x.stays(t, api.Broken); x.refused(t) })
	}
}

func TestSend(t *testing.T) {
	pair := api.Message{{Kind: api.Block, N: 2}, {N: 5}, {Kind: api.Str, Text: "ab"}}
	for _, c := range []struct {
		v    any
		mail api.Message
	}{
		{4, api.Message{{N: 4}}}, {least, api.Message{{N: least}}}, {'s', api.Message{{Kind: api.Str, Text: "ab"}}},
		{'p', pair}, {'b', api.Message{{Kind: api.Block, Tag: 3, N: 1}, {N: 1}}},
	} {
		for _, n := range []int{0, 3, -3, most, least} {
			benches(t, host(api.HSend, 0), []any{'a', n, c.v}, func(x *bench) {
				x.asks(t, api.Ask{Call: api.HSend, N: int64(n), Mail: c.mail})
				for _, r := range replies {
					took := 1
					if r.N == 0 {
						took = 0
					}
					x.answered(t, r, 'a', took)
				}
			})
		}
	}
	for _, v := range []any{'s', 'p', 'b', 'a', 'c'} { // what is no number is no receiver, whatever is sent
		for _, w := range []any{4, 'p', 'a'} {
			benches(t, host(api.HSend, 0), []any{v, w}, func(x *bench) { x.stays(t, api.Broken); x.refused(t) })
		}
	}
}

func TestWhatCantBeSent(t *testing.T) {
	for _, v := range []any{'a', 'c', 'x'} {
		benches(t, host(api.HSend, 0), []any{'s', 3, v}, func(x *bench) {
			x.leaves(t, 1, 's', 0)
			x.refused(t)
		})
	}
	for _, deep := range []int{1, 5} { // nor what has it, however deep
		x := innerOf(t, half, 0, host(api.HSend, 0), 4, 3)
		w := x.at['a']
		for range deep {
			w = x.put(t, api.Object{Kind: api.Block, Tag: 1, Fields: []uint64{w}})
		}
		x.m.Stack = append(x.m.Stack, w)
		x.leaves(t, 1, 4, 0)
		x.refused(t)
	}
	x := benchOf(t, half, 0, host(api.HSend, 0), 4, 3, 'p') // nor a ring
	object.Set(x.a, x.m.Heap, x.at['p'], 0, x.at['p'])
	x.leaves(t, 1, 4, 0)
	x.refused(t)
	for n := api.MaxCells - 4; n <= api.MaxCells+4; n++ { // nor more cells than a message may have
		x := benchOf(t, 500, 1, host(api.HSend, 0), 4, 3)
		list := word.Int(0)
		for i := range (n - 1) / 2 {
			list = x.put(t, api.Object{Kind: api.Block, Tag: 1, Fields: []uint64{word.Int(int64(i)), list}})
		}
		if n%2 == 0 {
			list = x.put(t, api.Object{Kind: api.Block, Tag: 1, Fields: []uint64{list}})
		}
		x.m.Stack = append(x.m.Stack, list)
		z := x.one(t, 1)
		if cells := len(z.Ask.Mail); n <= api.MaxCells && (!z.Asks || cells != n) || n > api.MaxCells && (z.Asks || cells != 0) {
			t.Errorf("a send of %d cells comes to %v", n, z)
		}
		if n > api.MaxCells {
			x.leaves(t, 1, 4, 0)
			x.refused(t)
		}
	}
}

func TestRecvAsks(t *testing.T) {
	for form := range 3 {
		benches(t, host(api.HRecv, form), []any{'a'}, func(x *bench) { x.asks(t, api.Ask{Call: api.HRecv, Form: form}) })
		benches(t, host(api.HRecv, form), nil, func(x *bench) {
			x.tall(api.MaxStack - 1)
			x.asks(t, api.Ask{Call: api.HRecv, Form: form})
			x.tall(api.MaxStack)
			x.stays(t, api.TooDeep)
			x.refused(t)
		})
	}
	benches(t, host(api.HRecv, 3), nil, func(x *bench) { x.stays(t, api.Broken); x.refused(t) })
}

func TestRecvWithoutMail(t *testing.T) {
	benches(t, host(api.HRecv, 0), []any{'a', 4}, func(x *bench) {
		for _, r := range []api.Reply{{None: true}, {None: true, N: 4}, {None: true, Mail: api.Message{{Kind: api.Str, Text: "x"}}}, {None: true, Mail: api.Message{{N: 1}}}} {
			before := everything(x.a)
			want := x.m
			want.State = api.Blocked
			if m, ok := x.answer(t, r); !ok || !same(m, want) {
				t.Errorf("%v answers %v of %v: %v, %t, want %v", r, x.ins(), x.m, m, ok, want)
			}
			if !reflect.DeepEqual(everything(x.a), before) {
				t.Errorf("%v as an answer to %v changed the arena", r, x.ins())
			}
		}
	})
}

// list is the message of numbers, as a list.
func list(numbers ...int64) api.Message {
	var m api.Message
	for _, n := range numbers {
		m = append(m, api.Cell{Kind: api.Block, Tag: 1, N: 2}, api.Cell{N: n})
	}
	return append(m, api.Cell{})
}

func TestRecvOfMail(t *testing.T) {
	for _, c := range []struct {
		form  int
		mail  api.Message
		words int
	}{
		{0, api.Message{{Kind: api.Str, Text: "xyz"}}, 2}, {0, api.Message{{Kind: api.Str}}, 1}, {0, api.Message{{Kind: api.Str, Text: strings.Repeat("x", 100)}}, 14},
		{1, api.Message{{N: 5}}, 0}, {1, api.Message{{N: least}}, 0}, {2, list(), 0}, {2, list(4), 3}, {2, list(4, -5, most, 0), 12},
	} {
		for _, more := range []int{0, 1, 9} {
			benches(t, host(api.HRecv, c.form), []any{'b'}, func(x *bench) {
				x.garbage(t, c.words+more)
				given := c.mail
				space := x.m.Heap.Space
				m, ok := x.answer(t, api.Reply{Mail: given, N: 7})
				heap := api.Heap{Base: ahead, Half: half, Space: space, Top: half - more}
				if !ok || m.State != api.Ready || m.Heap != heap || len(m.Stack) != len(x.m.Stack)+1 || !slices.Equal(m.Stack[:len(x.m.Stack)], x.m.Stack) || m.Frames[len(m.Frames)-1].PC != 1 {
					t.Errorf("%v answers %v of %v: %v, %t", given, x.ins(), x.m, m, ok)
					return
				}
				last := m.Stack[len(m.Stack)-1]
				if c.words == 0 && last != word.Int(given[0].N) || c.words > 0 && last != word.Place(space*half+half-more-c.words) {
					t.Errorf("%v answers %v of %v: the word %#x", given, x.ins(), x.m, last)
				}
				received(t, x, m, given)
			})
		}
	}
}

// received expects of the machine behind a reply that its last word is sent as the same message.
func received(t *testing.T, x *bench, m api.Machine, mail api.Message) {
	t.Helper()
	y := *x
	y.m = cloned(m)
	f := &y.m.Frames[len(y.m.Frames)-1]
	funcs := slices.Clone(y.p.Funcs)
	funcs[f.Func].Code = []api.Ins{host(api.HSend, 0), pop, ret}
	y.p.Funcs = funcs
	f.PC = 0
	y.m.Stack = append(y.m.Stack[:len(y.m.Stack)-1], word.Int(1), m.Stack[len(m.Stack)-1])
	z, ok := step.One(y.a, y.p, y.m, 1)
	if !ok || !z.Asks || !slices.Equal(z.Ask.Mail, mail) {
		t.Errorf("of the mail %v came %v", mail, z.Ask.Mail)
	}
}

func TestRecvOfWhatDoesNotFit(t *testing.T) {
	text := api.Message{{Kind: api.Str, Text: "x"}}
	for _, c := range []struct {
		form int
		mail []api.Message
	}{
		{0, []api.Message{nil, {}, {{N: 1}}, {{Kind: api.Str, Text: "x"}, {N: 1}}, {{Kind: api.Str, Tag: 1, Text: "x"}}, {{Kind: api.Str, Text: strings.Repeat("x", api.MaxBytes+1)}}, {{Kind: api.Array}}, list(1)}},
		{1, []api.Message{nil, text, {{N: 1 << 62}}, {{N: 1}, {N: 1}}, list(1)}},
		{2, []api.Message{nil, text, {{N: 1}}, list(1)[:2], slices.Concat(list(1), list()), {{Kind: api.Block, Tag: 1, N: 2}, {Kind: api.Str}, {}}, {{Kind: api.Block, N: 2}, {}, {}}, list(make([]int64, 50)...)}},
	} {
		for _, mail := range c.mail {
			for space := range 2 {
				for _, state := range []int{api.Ready, api.Blocked} {
					x := innerOf(t, half, space, host(api.HRecv, c.form), 's')
					x.m.State = state
					x.misfits(t, mail, api.Machine{Heap: x.m.Heap, State: api.Raised, Result: 1, Code: api.RShape})

					x.m.Handlers = []api.Handler{{Frame: 1, Height: 2, PC: 1}, {Frame: 2, Height: 7, PC: 2}}
					want := cloned(x.m)
					want.State, want.Handlers, want.Frames[1].PC = api.Ready, want.Handlers[:1], 2
					want.Stack = append(want.Stack, word.Int(api.RShape))
					x.misfits(t, mail, want)

					x.m.Handlers[1].Height = 8 // higher than the stack stands
					want = cloned(x.m)
					want.State = api.Broken
					x.misfits(t, mail, want)
				}
			}
		}
	}
}

// misfits expects that the mail makes this of the machine, and that the arena stays as it is.
func (x *bench) misfits(t *testing.T, mail api.Message, want api.Machine) {
	t.Helper()
	before := everything(x.a)
	if m, ok := x.answer(t, api.Reply{Mail: mail, N: 1}); !ok || !same(m, want) || !reflect.DeepEqual(everything(x.a), before) {
		t.Errorf("%v answers %v of %v: %v, %t, want %v", mail, x.ins(), x.m, m, ok, want)
	}
}

func TestRecvBehindACollection(t *testing.T) {
	mail := list(7, 8)
	for space := range 2 {
		for live := half - 8; live <= half-4; live++ { // the list has six words
			c := made{i: host(api.HRecv, 2), stack: []any{'p'}}
			x := c.lively(t, space, live)
			x.m.State = api.Blocked
			m, ok := x.answer(t, api.Reply{Mail: mail})
			heap := api.Heap{Base: ahead, Half: half, Space: 1 - space, Top: live}
			if live+6 > half {
				if !ok || m.State != api.NoWords || m.Heap != heap || len(m.Stack) != len(x.m.Stack) || m.Frames[0].PC != 0 {
					t.Errorf("%v answers %v of %v: %v, %t, want no words", mail, x.ins(), x.m, m, ok)
				}
				continue
			}
			heap.Top += 6
			if !ok || m.State != api.Ready || m.Heap != heap || len(m.Stack) != len(x.m.Stack)+1 || m.Stack[len(x.m.Stack)] != word.Place((1-space)*half+live) || m.Frames[0].PC != 1 {
				t.Errorf("%v answers %v of %v: %v, %t", mail, x.ins(), x.m, m, ok)
				continue
			}
			received(t, x, m, mail)
		}
		x := crammed(t, space, host(api.HRecv, 1)) // a number needs no room
		x.answered(t, api.Reply{Mail: api.Message{{N: 6}}}, append(anyOf(x.m.Stack[2:]), 6)...)
		for _, r := range []api.Reply{{None: true}, {Mail: api.Message{{Kind: api.Str}}}} { // nor does one that fits not, nor none
			y := crammed(t, space, host(api.HRecv, 1))
			if m, ok := y.answer(t, r); !ok || m.State == api.NoWords || m.Heap != y.m.Heap {
				t.Errorf("%v answers %v of %v: %v, %t", r, y.ins(), y.m, m, ok)
			}
		}
	}
	x := benchOf(t, half, 0, host(api.HRecv, 0)) // nothing is live
	m, ok := x.answer(t, api.Reply{Mail: api.Message{{Kind: api.Str, Text: strings.Repeat("x", 312)}}})
	if want := (api.Heap{Base: ahead, Half: half, Space: 1, Top: half}); !ok || m.State != api.Ready || m.Heap != want || m.Stack[2] != word.Place(half) {
		t.Errorf("a text as long as a semispace: %v, %t", m, ok)
	}
	x = benchOf(t, half, 0, host(api.HRecv, 0))
	m, ok = x.answer(t, api.Reply{Mail: api.Message{{Kind: api.Str, Text: strings.Repeat("x", 313)}}})
	if want := (api.Heap{Base: ahead, Half: half, Space: 1}); !ok || m.State != api.NoWords || m.Heap != want {
		t.Errorf("a text that is longer: %v, %t", m, ok)
	}
}

// anyOf is a list of the words that words takes.
func anyOf(words []uint64) []any {
	var l []any
	for _, w := range words {
		l = append(l, w)
	}
	return l
}

func TestAnswersToWhatAsksNot(t *testing.T) {
	for _, c := range rights {
		if c.i.Op != api.OHost {
			c.bench(t, half, 0).refused(t)
			continue
		}
		c.bench(t, half, 0).endless().refused(t)
		if len(c.stack) > 0 {
			benchOf(t, half, 1, c.i, c.stack[1:]...).refused(t)
		}
	}
	for _, c := range makers {
		c.bench(t, half, 1, 0).refused(t)
	}
	benchOf(t, half, 0, api.Ins{Op: api.ODiv}, 1, 0).refused(t)
	benchOf(t, half, 0, api.Ins{Op: api.OInt}).tall(api.MaxStack).refused(t)
	for call := range api.Hosts { // the first frame asks, but it is not its turn
		x := innerOf(t, half, 0, host(call, 0), 'c', 4)
		x.p.Funcs[1].Code = slices.Clone(x.p.Funcs[1].Code)
		x.p.Funcs[1].Code[0] = api.Ins{Op: api.OCall}
		x.m.Frames[0].PC = 0
		x.refused(t)
	}
}

func TestAskedAgain(t *testing.T) {
	x := benchOf(t, half, 0, host(api.HRecv, 0), 'a')
	for range 3 { // blocked, it asks anew
		x.asks(t, api.Ask{Call: api.HRecv})
		m, ok := x.answer(t, api.Reply{None: true})
		if !ok || m.State != api.Blocked {
			t.Fatalf("none: %v, %t", m, ok)
		}
		x.m = m
	}
	m, ok := x.answer(t, api.Reply{Mail: api.Message{{Kind: api.Str, Text: "at last"}}})
	if !ok || m.State != api.Ready || len(m.Stack) != 4 {
		t.Errorf("at last: %v, %t", m, ok)
	}
}

// Rule 2

func TestMailOfAnAskIsNewMemory(t *testing.T) {
	x := benchOf(t, half, 0, host(api.HSend, 0), 3, 'p')
	z, _ := step.One(x.a, x.p, x.m, 1)
	scribble(z.Ask.Mail, spareCell)
	x.asks(t, api.Ask{Call: api.HSend, N: 3, Mail: api.Message{{Kind: api.Block, N: 2}, {N: 5}, {Kind: api.Str, Text: "ab"}}})
}
