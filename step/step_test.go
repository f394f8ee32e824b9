package step_test

import (
	"math"
	"reflect"
	"slices"
	"strings"
	"testing"

	"stockpot/api"
	"stockpot/arena"
	"stockpot/code"
	"stockpot/frame"
	"stockpot/object"
	"stockpot/step"
	"stockpot/word"
)

const (
	least = -1 << 62
	most  = 1<<62 - 1
)

// ahead is how many words of the arena lie in another region ahead of the heap's; so many lie in one behind it.
const ahead = 3

// litter is what the words hold that no object takes: it looks like the head of a block.
const litter = 0x1_0000_0001

// empty is an arena with a heap that has no objects, its words full of litter, a region on either side of it.
func empty(half, space int) (*arena.Arena, api.Heap) {
	a, _ := arena.New(2*half + 2*ahead)
	for _, n := range []int{ahead, 2 * half, ahead} {
		base, _ := a.Cut(n)
		for at := range n {
			a.Set(base, at, litter)
		}
	}
	return a, api.Heap{Base: ahead, Half: half, Space: space}
}

// copyOf is another arena with the same regions and words.
func copyOf(a *arena.Arena) *arena.Arena {
	if a == nil {
		return nil
	}
	b, _ := arena.New(a.Len())
	for _, r := range a.Regions() {
		if base, ok := b.Cut(r[1]); !ok || base != r[0] {
			panic("the regions of the arena don't lie side by side")
		}
		words, _ := a.Words(r[0])
		for at, w := range words {
			b.Set(r[0], at, w)
		}
	}
	return b
}

// everything is the words of each region of the arena; the heap's is the second one.
func everything(a *arena.Arena) [][]uint64 {
	var whole [][]uint64
	for _, r := range a.Regions() {
		l, _ := a.Words(r[0])
		whole = append(whole, l)
	}
	return whole
}

func same(m, n api.Machine) bool {
	return m.Heap == n.Heap && slices.Equal(m.Stack, n.Stack) && slices.Equal(m.Frames, n.Frames) && slices.Equal(m.Handlers, n.Handlers) && m.State == n.State && m.Result == n.Result && m.Code == n.Code
}

func sameAsk(p, q api.Ask) bool {
	return p.Call == q.Call && p.N == q.N && p.Text == q.Text && slices.Equal(p.Mail, q.Mail) && p.Form == q.Form
}

func sameStepped(p, q api.Stepped) bool {
	return same(p.M, q.M) && p.Used == q.Used && sameAsk(p.Ask, q.Ask) && p.Asks == q.Asks && p.Short == q.Short
}

func cloned(m api.Machine) api.Machine {
	m.Stack, m.Frames, m.Handlers = slices.Clone(m.Stack), slices.Clone(m.Frames), slices.Clone(m.Handlers)
	return m
}

// What stands in the spare room behind the lists that are handed in.
const spareWord = 0x77

var (
	spareFrame   = api.Frame{Func: 77, PC: 77, Base: 77, Self: 77}
	spareHandler = api.Handler{Frame: 77, Height: 77, PC: 77}
	spareCell    = api.Cell{Kind: 77, Tag: 77, N: 77, Text: "spare"}
)

// withSpare is the same list with some of spare in its spare room.
func withSpare[T any](l []T, spare T) []T {
	return append(slices.Clone(l), spare, spare, spare)[:len(l)]
}

// hasSpare says whether the list's spare room holds what withSpare laid there.
func hasSpare[T comparable](l []T, spare T) bool {
	behind := l[len(l) : len(l)+3]
	return behind[0] == spare && behind[1] == spare && behind[2] == spare
}

// handed is the machine with something in the spare room of its lists.
func handed(m api.Machine) api.Machine {
	m.Stack, m.Frames, m.Handlers = withSpare(m.Stack, spareWord), withSpare(m.Frames, spareFrame), withSpare(m.Handlers, spareHandler)
	return m
}

// kept expects of a machine that was handed in that it is as it was.
func kept(t *testing.T, given, m api.Machine) {
	t.Helper()
	if !same(given, m) || !hasSpare(given.Stack, spareWord) || !hasSpare(given.Frames, spareFrame) || !hasSpare(given.Handlers, spareHandler) {
		t.Errorf("the machine %v is now %v", m, given)
	}
}

// scribble writes over each place of the list, its spare room included.
func scribble[T any](l []T, v T) {
	for i := range l[:cap(l)] {
		l[:cap(l)][i] = v
	}
}

// scribbleOver writes over each list of the machine.
func scribbleOver(m api.Machine) {
	scribble(m.Stack, 99)
	scribble(m.Frames, api.Frame{Func: 99, PC: 99, Base: 99, Self: 99})
	scribble(m.Handlers, api.Handler{Frame: 99, Height: 99, PC: 99})
}

// apart expects that what one writes into a machine that is told can't be seen in the one that was handed in, nor the other way; it tells the machine as it was told.
func apart(t *testing.T, given, m, told api.Machine) api.Machine {
	t.Helper()
	kept(t, given, m)
	was := cloned(told)
	scribbleOver(given)
	if !same(told, was) {
		t.Errorf("what was told is %v, and was %v", told, was)
	}
	copy(given.Stack, m.Stack)
	copy(given.Frames, m.Frames)
	copy(given.Handlers, m.Handlers)
	again := cloned(given)
	scribbleOver(told)
	if !same(given, again) {
		t.Errorf("what was handed in is %v, and was %v", given, again)
	}
	return was
}

// unchanged does something, and expects that the program and the arena are behind it what they are to be.
func unchanged(t *testing.T, x *bench, want *arena.Arena, do func()) {
	t.Helper()
	bytes, _ := code.Encode(x.p)
	do()
	if now, _ := code.Encode(x.p); !slices.Equal(now, bytes) {
		t.Errorf("the program is now %v", x.p)
	}
	if x.a != nil && !reflect.DeepEqual(everything(x.a), everything(want)) {
		t.Errorf("at %v of %v the arena holds %x, want %x", x.ins(), x.m, everything(x.a), everything(want))
	}
}

// bench is a machine at an instruction, and words of its heap by what they point to:
// 's' the text "ab", 'p' a block of tag 0 with 5 and the text, 'b' one of tag 3 with 1, 'a' an array of 7 and 8, 'c' a closure of function 1 with 9, 'x' one of a function that there is not.
type bench struct {
	a  *arena.Arena
	p  api.Program
	m  api.Machine
	at map[rune]uint64
}

var pop, ret = api.Ins{Op: api.OPop}, api.Ins{Op: api.ORet}

// program begins with the instruction, and has more behind it; its second function has as much.
func program(i api.Ins) api.Program {
	return api.Program{
		Funcs: []api.Func{{Locals: 2, Code: []api.Ins{i, pop, pop, ret}}, {Locals: 3, Free: 1, Code: []api.Ins{i, pop, ret}}},
		Strs:  []string{"", "text", "a text of twenty-five bytes"[:25]},
		Forms: []api.Form{{Kind: api.FStr}, {Kind: api.FInt}, {Kind: api.FList, A: 1}},
	}
}

// half is how many words a semispace of a bench's heap has, unless it says otherwise; taken is how many of them are.
const (
	half  = 40
	taken = 13
)

// benchOf is a machine that was started, at the instruction, with these words above its two locals: numbers (int), others by their letters.
func benchOf(t *testing.T, half, space int, i api.Ins, stack ...any) *bench {
	t.Helper()
	x := &bench{p: program(i), at: map[rune]uint64{}}
	a, h := empty(half, space)
	x.a, x.m = a, frame.Start(h, x.p)
	x.at['s'] = x.put(t, api.Object{Kind: api.Str, Text: "ab"})
	x.at['p'] = x.put(t, api.Object{Kind: api.Block, Fields: []uint64{word.Int(5), x.at['s']}})
	x.at['b'] = x.put(t, api.Object{Kind: api.Block, Tag: 3, Fields: []uint64{word.Int(1)}})
	x.at['a'] = x.put(t, api.Object{Kind: api.Array, Fields: []uint64{word.Int(7), word.Int(8)}})
	x.at['c'] = x.put(t, api.Object{Kind: api.Closure, Tag: 1, Fields: []uint64{word.Int(9)}})
	x.at['x'] = x.put(t, api.Object{Kind: api.Closure, Tag: 5})
	x.m.Stack = append(x.m.Stack, x.words(stack...)...)
	return x
}

// innerOf is benchOf within a call: the instruction is of the second function, of the closure 'c', which has the three locals 21, the block 'b' and 23 and these words above them.
func innerOf(t *testing.T, half, space int, i api.Ins, stack ...any) *bench {
	t.Helper()
	x := benchOf(t, half, space, i, 11, 21, 'b', 23)
	x.m.Stack = append(x.m.Stack, x.words(stack...)...)
	x.m.Frames[0].PC = 1
	x.m.Frames = append(x.m.Frames, api.Frame{Func: 1, Base: 3, Self: x.at['c']})
	return x
}

// put lays an object into the bench's heap.
func (x *bench) put(t *testing.T, o api.Object) uint64 {
	t.Helper()
	h, w, ok := object.Put(x.a, x.m.Heap, o)
	if !ok {
		t.Fatalf("Put(%v, %v): false", x.m.Heap, o)
	}
	x.m.Heap = h
	return w
}

// words are those of numbers and letters.
func (x *bench) words(l ...any) []uint64 {
	var words []uint64
	for _, v := range l {
		switch v := v.(type) {
		case int:
			words = append(words, word.Int(int64(v)))
		case rune:
			words = append(words, x.at[v])
		case uint64:
			words = append(words, v)
		default:
			panic(v)
		}
	}
	return words
}

// ins is the bench's instruction; the zero one, if there is none.
func (x *bench) ins() (i api.Ins) {
	defer func() { recover() }()
	f := x.m.Frames[len(x.m.Frames)-1]
	return x.p.Funcs[f.Func].Code[f.PC]
}

// costs expects that the instruction costs what it plainly does, and that asking changes nothing.
func (x *bench) costs(t *testing.T) int {
	t.Helper()
	want, wantOK := plainCost(x.a, x.p, x.m)
	unchanged(t, x, copyOf(x.a), func() {
		given := handed(x.m)
		if cost, ok := step.Cost(x.a, x.p, given); cost != want || ok != wantOK {
			t.Errorf("Cost(%v, %v) = %d, %t, want %d, %t", x.ins(), x.m, cost, ok, want, wantOK)
		}
		kept(t, given, x.m)
	})
	return want
}

// one does the instruction with that fuel, expects of it what plainly comes of it, and of all else that it is as it was.
func (x *bench) one(t *testing.T, fuel int) api.Stepped {
	t.Helper()
	x.costs(t)
	may := mayGoOn(x.a, x.p, x.m)
	twin := copyOf(x.a)
	want, wantOK := plainOne(twin, x.p, x.m, fuel)
	var got api.Stepped
	unchanged(t, x, twin, func() {
		given := handed(x.m)
		var ok bool
		got, ok = step.One(x.a, x.p, given, fuel)
		if ok != wantOK || !sameStepped(got, want) {
			t.Errorf("One(%v, %v, %d) = %v, %t, want %v, %t", x.ins(), x.m, fuel, got, ok, want, wantOK)
		}
		mail := slices.Clone(got.Ask.Mail)
		scribble(got.Ask.Mail, spareCell)
		got.M, got.Ask.Mail = apart(t, given, x.m, got.M), mail
	})
	if may && !frame.Good(x.a, x.p, got.M) {
		t.Errorf("behind %v of %v the machine %v may not be", x.ins(), x.m, got.M)
	}
	return got
}

// answer answers the instruction, likewise.
func (x *bench) answer(t *testing.T, r api.Reply) (api.Machine, bool) {
	t.Helper()
	may := mayGoOn(x.a, x.p, x.m)
	twin := copyOf(x.a)
	want, wantOK := plainAnswer(twin, x.p, x.m, r)
	var got api.Machine
	var ok bool
	unchanged(t, x, twin, func() {
		given, reply := handed(x.m), r
		reply.Mail = withSpare(r.Mail, spareCell)
		got, ok = step.Answer(x.a, x.p, given, reply)
		if ok != wantOK || !same(got, want) {
			t.Errorf("Answer(%v, %v, %v) = %v, %t, want %v, %t", x.ins(), x.m, r, got, ok, want, wantOK)
		}
		if !slices.Equal(reply.Mail, r.Mail) || !hasSpare(reply.Mail, spareCell) {
			t.Errorf("the mail %v is now %v", r.Mail, reply.Mail)
		}
		got = apart(t, given, x.m, got)
	})
	if ok && may && !frame.Good(x.a, x.p, got) {
		t.Errorf("behind the answer %v to %v of %v the machine %v may not be", r, x.ins(), x.m, got)
	}
	return got, ok
}

// last is the frame that goes on.
func (x *bench) last() *api.Frame { return &x.m.Frames[len(x.m.Frames)-1] }

// floor is where in the stack the words begin that may be taken.
func (x *bench) floor() int { return x.last().Base + x.p.Funcs[x.last().Func].Locals }

// leaves expects that the instruction goes on, at that PC, with just these words above its frame's locals, and that no word of the heap changes.
func (x *bench) leaves(t *testing.T, pc int, stack ...any) {
	t.Helper()
	want := cloned(x.m)
	want.Stack = append(want.Stack[:x.floor()], x.words(stack...)...)
	want.Frames[len(want.Frames)-1].PC, want.State = pc, api.Ready
	before := everything(x.a)
	if z := x.one(t, 1); z.Used != 1 || z.Asks || z.Short || !same(z.M, want) {
		t.Errorf("%v of %v comes to %v, want %v", x.ins(), x.m, z, want)
	}
	if !reflect.DeepEqual(everything(x.a), before) {
		t.Errorf("%v of %v changed the arena", x.ins(), x.m)
	}
}

// stays expects that the machine comes to that State, and nothing else changes, at a cost of 1.
func (x *bench) stays(t *testing.T, state int) {
	t.Helper()
	want := x.m
	want.State = state
	before := everything(x.a)
	if z := x.one(t, math.MaxInt); z.Used != 1 || z.Asks || z.Short || !same(z.M, want) {
		t.Errorf("%v of %v comes to %v, want the State %d alone", x.ins(), x.m, z, state)
	}
	if !reflect.DeepEqual(everything(x.a), before) {
		t.Errorf("%v of %v changed the arena", x.ins(), x.m)
	}
	if _, ok := x.answer(t, api.Reply{}); ok {
		t.Errorf("%v of %v was answered", x.ins(), x.m)
	}
}

// benches calls one with a bench in either semispace, Ready and Blocked, in the first frame and within a call.
func benches(t *testing.T, i api.Ins, stack []any, one func(x *bench)) {
	t.Helper()
	for space := range 2 {
		for _, state := range []int{api.Ready, api.Blocked} {
			for _, x := range []*bench{benchOf(t, half, space, i, stack...), innerOf(t, half, space, i, stack...)} {
				x.m.State = state
				one(x)
			}
		}
	}
}

// The chapter's example.

func TestTheExample(t *testing.T) {
	a, h := empty(api.MinHalf, 0)
	p := api.Program{Funcs: []api.Func{{Code: []api.Ins{{Op: api.OInt, A: 1}, {Op: api.OInt, A: 2}, {Op: api.OAdd}, ret}}}}
	x := &bench{a: a, p: p, m: frame.Start(h, p)}
	cost := 0
	for i, want := range [][]uint64{{3}, {3, 5}, {7}} {
		z := x.one(t, 1)
		if !slices.Equal(z.M.Stack, want) || z.M.Frames[0].PC != i+1 || z.M.State != api.Ready {
			t.Errorf("behind %v: %v, want %d on the stack", x.ins(), z.M, want)
		}
		x.m = z.M
		cost += z.Used
	}
	if cost != 3 {
		t.Errorf("it cost %d, want 3", cost)
	}
	z := x.one(t, 1)
	if want := (api.Machine{Heap: h, State: api.Halted, Result: word.Int(3)}); !same(z.M, want) {
		t.Errorf("behind ret: %v, want %v", z.M, want)
	}
}

// P12.1: each op, once and a bit

func TestWhatIsLeft(t *testing.T) {
	for _, c := range []struct {
		i     api.Ins
		stack []any
		want  []any
	}{
		{api.Ins{Op: api.OInt, A: -9}, nil, []any{-9}},
		{api.Ins{Op: api.OInt}, []any{'s'}, []any{'s', 0}},
		{api.Ins{Op: api.OInt, A: least}, nil, []any{least}},
		{api.Ins{Op: api.OInt, A: most}, nil, []any{most}},
		{pop, []any{1, 's'}, []any{1}},
		{pop, []any{'s'}, nil},
		{api.Ins{Op: api.OAdd}, []any{4, 5}, []any{9}},
		{api.Ins{Op: api.OAdd}, []any{most, 1}, []any{least}},
		{api.Ins{Op: api.OSub}, []any{'s', 4, 5}, []any{'s', -1}},
		{api.Ins{Op: api.OSub}, []any{least, 1}, []any{most}},
		{api.Ins{Op: api.OMul}, []any{4, -5}, []any{-20}},
		{api.Ins{Op: api.OMul}, []any{most, most}, []any{1}},
		{api.Ins{Op: api.ODiv}, []any{-9, 2}, []any{-4}},
		{api.Ins{Op: api.ODiv}, []any{0, 2}, []any{0}},
		{api.Ins{Op: api.ODiv}, []any{least, -1}, []any{least}},
		{api.Ins{Op: api.OMod}, []any{-9, 2}, []any{-1}},
		{api.Ins{Op: api.OMod}, []any{9, -2}, []any{1}},
		{api.Ins{Op: api.OMod}, []any{least, -1}, []any{0}},
		{api.Ins{Op: api.OEq}, []any{4, 4}, []any{1}},
		{api.Ins{Op: api.OEq}, []any{4, -4}, []any{0}},
		{api.Ins{Op: api.OLess}, []any{4, 4}, []any{0}},
		{api.Ins{Op: api.OLess}, []any{-5, 4}, []any{1}},
		{api.Ins{Op: api.OLess}, []any{4, -5}, []any{0}},
		{api.Ins{Op: api.OField}, []any{'p'}, []any{5}},
		{api.Ins{Op: api.OField, A: 1}, []any{2, 'p'}, []any{2, 's'}},
		{api.Ins{Op: api.OField}, []any{'b'}, []any{1}},
		{api.Ins{Op: api.OIsInt, A: 5}, []any{5}, []any{1}},
		{api.Ins{Op: api.OIsInt, A: 5}, []any{4}, []any{0}},
		{api.Ins{Op: api.OIsInt, A: least}, []any{least}, []any{1}},
		{api.Ins{Op: api.OIsInt, A: -1}, []any{-1}, []any{1}},
		{api.Ins{Op: api.OIsInt}, []any{'s'}, []any{0}},
		{api.Ins{Op: api.OIsInt}, []any{'c'}, []any{0}},
		{api.Ins{Op: api.OIsTag, A: 3}, []any{'b'}, []any{1}},
		{api.Ins{Op: api.OIsTag}, []any{'p'}, []any{1}},
		{api.Ins{Op: api.OIsTag, A: 3}, []any{'p'}, []any{0}},
		{api.Ins{Op: api.OIsTag}, []any{'b'}, []any{0}},
		{api.Ins{Op: api.OIsTag, A: 3}, []any{3}, []any{0}},
		{api.Ins{Op: api.OIsTag}, []any{0}, []any{0}},
		{api.Ins{Op: api.OIsTag}, []any{'s'}, []any{0}},
		{api.Ins{Op: api.OIsTag}, []any{'a'}, []any{0}},
		{api.Ins{Op: api.OIsTag, A: 1}, []any{'c'}, []any{0}},
		{api.Ins{Op: api.OGet}, []any{'a', 0}, []any{7}},
		{api.Ins{Op: api.OGet}, []any{'s', 'a', 1}, []any{'s', 8}},
		{api.Ins{Op: api.OLen}, []any{'a'}, []any{2}},
		{api.Ins{Op: api.OSize}, []any{'s'}, []any{2}},
		{api.Ins{Op: api.OByte}, []any{'s', 0}, []any{97}},
		{api.Ins{Op: api.OByte}, []any{'p', 's', 1}, []any{'p', 98}},
		{api.Ins{Op: api.OSame}, []any{'s', 's'}, []any{1}},
	} {
		benches(t, c.i, c.stack, func(x *bench) { x.leaves(t, 1, c.want...) })
	}
}

func TestTexts(t *testing.T) {
	for _, c := range []struct{ first, second string }{
		{"", ""}, {"", "x"}, {"ab", "ab"}, {"ab", "ac"}, {"ab", "abc"}, {"12345678", "12345678"}, {"12345678", "12345679"}, {"12345678", "1234567"}, {"\x00", ""}, {"\x00\xff", "\x00\xff"},
	} {
		for space := range 2 {
			x := benchOf(t, half, space, api.Ins{Op: api.OSame})
			x.m.Stack = append(x.m.Stack, x.put(t, api.Object{Kind: api.Str, Text: c.first}), x.put(t, api.Object{Kind: api.Str, Text: c.second}))
			want := 0
			if c.first == c.second { // though they are two objects
				want = 1
			}
			x.leaves(t, 1, want)
		}
	}
	for _, n := range []int{0, 1, 7, 8, 9, api.MaxBytes} {
		x := benchOf(t, 100, 0, api.Ins{Op: api.OSize})
		x.m.Stack = append(x.m.Stack, x.put(t, api.Object{Kind: api.Str, Text: strings.Repeat("\x00", n)}))
		x.leaves(t, 1, n)
	}
	for at, want := range []byte("\x00\xff\x80 seasoning") {
		x := benchOf(t, half, 1, api.Ins{Op: api.OByte})
		x.m.Stack = append(x.m.Stack, x.put(t, api.Object{Kind: api.Str, Text: "\x00\xff\x80 seasoning"}), word.Int(int64(at)))
		x.leaves(t, 1, int(want))
	}
}

func TestLocals(t *testing.T) {
	for at, want := range []any{21, 'b', 23} {
		for space := range 2 {
			innerOf(t, half, space, api.Ins{Op: api.OLocal, A: at}, 's').leaves(t, 1, 's', want)
			for _, v := range []any{-4, 'a'} {
				x := innerOf(t, half, space, api.Ins{Op: api.OSet, A: at}, 's', v)
				z := x.one(t, 1)
				want := x.words(0, 0, 11, 21, 'b', 23, 's')
				want[3+at] = x.words(v)[0]
				if !slices.Equal(z.M.Stack, want) || z.M.Frames[1].PC != 1 || z.M.State != api.Ready {
					t.Errorf("set %d to %v comes to %v, want the stack %d", at, v, z.M, want)
				}
			}
		}
	}
	for at := range 2 {
		x := benchOf(t, half, 0, api.Ins{Op: api.OLocal, A: at}, 3)
		x.m.Stack[0], x.m.Stack[1] = x.at['p'], word.Int(31)
		x.leaves(t, 1, 3, []any{'p', 31}[at])
	}
}

func TestSelfAndWhatItCaptured(t *testing.T) {
	for space := range 2 {
		benchOf(t, half, space, api.Ins{Op: api.OSelf}, 's').leaves(t, 1, 's', 0)
		innerOf(t, half, space, api.Ins{Op: api.OSelf}, 's').leaves(t, 1, 's', 'c')
		innerOf(t, half, space, api.Ins{Op: api.OEnv}, 's').leaves(t, 1, 's', 9)
		for _, of := range []int{0, 1, 5} { // which function the closure is of doesn't matter
			for n := range 4 {
				x := innerOf(t, half, space, api.Ins{Op: api.OEnv, A: n}, 4)
				x.last().Self = x.put(t, api.Object{Kind: api.Closure, Tag: of, Fields: x.words(3, 's', 'c')})
				if n == 3 {
					x.stays(t, api.Broken)
				} else {
					x.leaves(t, 1, 4, []any{3, 's', 'c'}[n])
				}
			}
		}
		for _, self := range []any{0, 3, 's', 'p', 'b', 'a', 'x'} { // no closure, none with a field
			x := innerOf(t, half, space, api.Ins{Op: api.OEnv}, 4)
			x.last().Self = x.words(self)[0]
			x.stays(t, api.Broken)
		}
		benchOf(t, half, space, api.Ins{Op: api.OEnv}, 4).stays(t, api.Broken)
	}
}

func TestFields(t *testing.T) {
	for size := 1; size <= api.MaxSize; size++ {
		for at := range api.MaxSize {
			for space := range 2 {
				x := innerOf(t, half, space, api.Ins{Op: api.OField, A: at}, 's')
				fields := x.words(10, 's', 12, 'a', 14, 'c', 16, 'p')[:size]
				x.m.Stack = append(x.m.Stack, x.put(t, api.Object{Kind: api.Block, Tag: at, Fields: fields}))
				if at < size {
					x.leaves(t, 1, 's', fields[at])
				} else {
					x.stays(t, api.Broken)
				}
			}
		}
	}
}

func TestJumps(t *testing.T) {
	for to := range 4 {
		for space := range 2 {
			benchOf(t, half, space, api.Ins{Op: api.OJump, A: to}, 's').leaves(t, to, 's')
			benchOf(t, half, space, api.Ins{Op: api.OJumpZ, A: to}, 's', 0).leaves(t, to, 's')
			for _, n := range []int{1, -1, 2, least, most} {
				benchOf(t, half, space, api.Ins{Op: api.OJumpZ, A: to}, 's', n).leaves(t, 1, 's')
			}
		}
	}
	for to := range 3 {
		innerOf(t, half, 0, api.Ins{Op: api.OJump, A: to}).leaves(t, to)
		innerOf(t, half, 0, api.Ins{Op: api.OJumpZ, A: to}, 'a', 0).leaves(t, to, 'a')
	}
	x := benchOf(t, half, 0, api.Ins{Op: api.OJump}, 5) // the last one may jump, and jump to itself
	x.p.Funcs[0].Code[3] = api.Ins{Op: api.OJump, A: 3}
	x.m.Frames[0].PC = 3
	x.leaves(t, 3, 5)
}

// fieldSet expects that the word's object has its fields, but for one, and that nothing else of the arena changes.
func (x *bench) fieldSet(t *testing.T, of uint64, field int, v uint64) {
	t.Helper()
	was, _ := object.Get(x.a, x.m.Heap, of)
	want := everything(x.a)
	at, _ := word.At(of)
	want[1][at+1+field] = v
	z := x.one(t, 1)
	if !reflect.DeepEqual(everything(x.a), want) {
		t.Errorf("%v of %v: the arena holds %x, want %x", x.ins(), x.m, everything(x.a), want)
	}
	was.Fields[field] = v
	if o, ok := object.Get(x.a, z.M.Heap, of); !ok || !reflect.DeepEqual(o, was) {
		t.Errorf("%v of %v: the object is %v, want %v", x.ins(), x.m, o, was)
	}
	stack := append(slices.Clone(x.m.Stack[:x.floor()]), word.Int(4), word.Int(0))
	if z.Used != 1 || z.M.State != api.Ready || z.M.Heap != x.m.Heap || !slices.Equal(z.M.Stack, stack) || z.M.Frames[len(z.M.Frames)-1].PC != 1 {
		t.Errorf("%v of %v comes to %v, want the stack %d", x.ins(), x.m, z, stack)
	}
}

func TestStoresAndPuts(t *testing.T) {
	for _, v := range []any{0, -7, 's', 'p', 'b', 'a', 'c'} {
		benches(t, api.Ins{Op: api.OStore}, []any{4, 'p', v}, func(x *bench) { x.fieldSet(t, x.at['p'], 0, x.words(v)[0]) })
		for n := range 2 {
			benches(t, api.Ins{Op: api.OPut}, []any{4, 'a', n, v}, func(x *bench) { x.fieldSet(t, x.at['a'], n, x.words(v)[0]) })
		}
	}
	x := benchOf(t, half, 0, api.Ins{Op: api.OStore}, 4)
	w := x.put(t, api.Object{Kind: api.Block, Fields: x.words(1)}) // with a single field
	x.m.Stack = append(x.m.Stack, w, w)
	x.fieldSet(t, w, 0, w)
}
