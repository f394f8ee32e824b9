package object_test

import (
	"bytes"
	"encoding/binary"
	"math"
	"slices"
	"strings"
	"testing"

	"stockpot/api"
	"stockpot/arena"
	"stockpot/object"
	"stockpot/word"
)

// ahead is how many words of the arena lie in another region ahead of the heap's; so many lie in one behind it.
const ahead = 3

// made is an arena with a heap that has no objects, a region on either side of it.
func made(t *testing.T, half, space int) (*arena.Arena, api.Heap) {
	t.Helper()
	a, ok := arena.New(2*half + 2*ahead)
	if !ok {
		t.Fatalf("no arena for two times %d words", half)
	}
	for _, n := range []int{ahead, 2 * half, ahead} {
		if _, ok := a.Cut(n); !ok {
			t.Fatalf("no region of %d words", n)
		}
	}
	return a, api.Heap{Base: ahead, Half: half, Space: space}
}

// laid is an arena with a heap whose semispace begins with those words, all of them taken.
func laid(t *testing.T, half, space int, words ...uint64) (*arena.Arena, api.Heap) {
	t.Helper()
	a, h := made(t, half, space)
	for i, w := range words {
		poke(t, a, h, space*half+i, w)
	}
	h.Top = len(words)
	return a, h
}

// poke makes w the word at that place of the heap's region.
func poke(t *testing.T, a *arena.Arena, h api.Heap, place int, w uint64) {
	t.Helper()
	if !a.Set(h.Base, place, w) {
		t.Fatalf("no place %d in the region at %d", place, h.Base)
	}
}

// words is all words of the heap's region.
func words(t *testing.T, a *arena.Arena, h api.Heap) []uint64 {
	t.Helper()
	l, ok := a.Words(h.Base)
	if !ok {
		t.Fatalf("no region at %d", h.Base)
	}
	return l
}

// put expects that the object is laid, and that all but the heap's Top stays.
func put(t *testing.T, a *arena.Arena, h *api.Heap, o api.Object) uint64 {
	t.Helper()
	n, w, ok := object.Put(a, *h, o)
	want := *h
	want.Top += object.Words(o)
	if !ok || n != want {
		t.Fatalf("Put(%v, %v) = %v, %t, want %v", *h, o, n, ok, want)
	}
	if at, ok := word.At(w); !ok || at != h.Space*h.Half+h.Top {
		t.Fatalf("Put(%v, %v) tells the word %#x", *h, o, w)
	}
	*h = n
	return w
}

// noPut expects that the object is not laid, and that no word of the arena changes.
func noPut(t *testing.T, a *arena.Arena, h api.Heap, o api.Object) {
	t.Helper()
	before := everything(a)
	if n, w, ok := object.Put(a, h, o); ok || w != 0 || n != (api.Heap{}) {
		t.Errorf("Put(%v, %v) = %v, %#x, %t, want none", h, o, n, w, ok)
	}
	unchanged(t, a, before)
}

// noSet expects that the field is not set, and that no word of the arena changes.
func noSet(t *testing.T, a *arena.Arena, h api.Heap, w uint64, i int, v uint64) {
	t.Helper()
	before := everything(a)
	if object.Set(a, h, w, i, v) {
		t.Errorf("Set(%v, %#x, %d, %#x): true", h, w, i, v)
	}
	unchanged(t, a, before)
}

// got expects that the object is at the place of w.
func got(t *testing.T, a *arena.Arena, h api.Heap, w uint64, want api.Object) {
	t.Helper()
	if o, ok := object.Get(a, h, w); !ok || !same(o, want) {
		t.Errorf("Get(%v, %#x) = %v, %t, want %v", h, w, o, ok, want)
	}
}

// noGet expects that w is no place's with an object.
func noGet(t *testing.T, a *arena.Arena, h api.Heap, w uint64) {
	t.Helper()
	if o, ok := object.Get(a, h, w); ok || !same(o, api.Object{}) {
		t.Errorf("Get(%v, %#x) = %v, %t, want none", h, w, o, ok)
	}
}

// all expects that the heap may be, and that its objects are at just those places.
func all(t *testing.T, a *arena.Arena, h api.Heap, want ...int) {
	t.Helper()
	if !object.Good(a, h) {
		t.Errorf("Good(%v): false", h)
	}
	if l, ok := object.All(a, h); !ok || !slices.Equal(l, want) {
		t.Errorf("All(%v) = %d, %t, want %d", h, l, ok, want)
	}
}

// bad expects that the heap may not be, whatever is asked of it, and that no word of the arena changes.
func bad(t *testing.T, a *arena.Arena, h api.Heap) {
	t.Helper()
	before := everything(a)
	if object.Good(a, h) {
		t.Errorf("Good(%v): true", h)
	}
	if l, ok := object.All(a, h); ok || len(l) != 0 {
		t.Errorf("All(%v) = %d, %t, want none", h, l, ok)
	}
	noPut(t, a, h, api.Object{Kind: api.Array})
	for _, place := range []int{0, 1, 8, h.Half} {
		noGet(t, a, h, word.Place(place))
		noSet(t, a, h, word.Place(place), 0, 1)
	}
	unchanged(t, a, before)
}

// everything is the words of each region of the arena.
func everything(a *arena.Arena) [][]uint64 {
	var whole [][]uint64
	for _, r := range a.Regions() {
		l, _ := a.Words(r[0])
		whole = append(whole, l)
	}
	return whole
}

// unchanged expects that each region's words are what they were.
func unchanged(t *testing.T, a *arena.Arena, before [][]uint64) {
	t.Helper()
	if !slices.EqualFunc(everything(a), before, slices.Equal[[]uint64]) {
		t.Errorf("words changed: %d, they were %d", everything(a), before)
	}
}

func same(o, p api.Object) bool {
	return o.Kind == p.Kind && o.Tag == p.Tag && slices.Equal(o.Fields, p.Fields) && o.Text == p.Text
}

// ints are so many numbers' words, no two alike.
func ints(n int) []uint64 {
	l := make([]uint64, n)
	for i := range l {
		l[i] = word.Int(int64(i) - 3)
	}
	return l
}

func blockOf(tag int, fields ...uint64) api.Object {
	return api.Object{Kind: api.Block, Tag: tag, Fields: fields}
}

func strOf(text string) api.Object { return api.Object{Kind: api.Str, Text: text} }

func arrayOf(fields ...uint64) api.Object { return api.Object{Kind: api.Array, Fields: fields} }

func closureOf(tag int, fields ...uint64) api.Object {
	return api.Object{Kind: api.Closure, Tag: tag, Fields: fields}
}

// shape is an object, how many words it takes, its head.
type shape struct {
	o     api.Object
	words int
	head  uint64
}

// shapes are objects of each kind, those at their limits among them.
func shapes() []shape {
	return []shape{
		{blockOf(0, 1), 2, 0x1_0000_0001},
		{blockOf(1, 1, 3), 3, 0x2_0000_0101},
		{blockOf(api.MaxTag, 1), 2, 0x1_0000_ff01},
		{blockOf(7, ints(api.MaxSize)...), 9, 0x8_0000_0701},
		{strOf(""), 1, 0x2},
		{strOf("a"), 2, 0x1_0000_0002},
		{strOf("1234567"), 2, 0x7_0000_0002},
		{strOf("12345678"), 2, 0x8_0000_0002},
		{strOf("123456789"), 3, 0x9_0000_0002},
		{strOf(strings.Repeat("z", 16)), 3, 0x10_0000_0002},
		{strOf(strings.Repeat("z", 17)), 4, 0x11_0000_0002},
		{strOf(strings.Repeat("z", 393)), 51, 0x189_0000_0002},
		{strOf(strings.Repeat("z", api.MaxBytes)), 51, 0x190_0000_0002},
		{arrayOf(), 1, 0x3},
		{arrayOf(5), 2, 0x1_0000_0003},
		{arrayOf(ints(api.MaxSize + 1)...), 10, 0x9_0000_0003},
		{arrayOf(ints(api.MaxArray)...), 401, 0x190_0000_0003},
		{closureOf(0), 1, 0x4},
		{closureOf(api.MaxFuncs - 1), 1, 0x3b04},
		{closureOf(3, 1, 3), 3, 0x2_0000_0304},
		{closureOf(api.MaxFuncs-1, ints(api.MaxFree)...), 31, 0x1e_0000_3b04},
	}
}

// noObjects are objects that may not be.
func noObjects() []api.Object {
	list := []api.Object{
		{}, {Kind: api.Moved}, {Kind: api.Moved, Tag: 8}, {Kind: api.Moved, Fields: ints(1)}, {Kind: api.Moved, Text: "a"},
		blockOf(0), blockOf(0, ints(api.MaxSize+1)...), blockOf(0, ints(300)...),
		{Kind: api.Block, Fields: ints(1), Text: "a"}, {Kind: api.Block, Text: "a"},
		{Kind: api.Str, Fields: ints(1)}, {Kind: api.Str, Fields: ints(1), Text: "a"}, {Kind: api.Str, Tag: 1, Text: "a"},
		strOf(strings.Repeat("a", api.MaxBytes+1)), strOf(strings.Repeat("a", 70000)),
		arrayOf(ints(api.MaxArray + 1)...), arrayOf(ints(70000)...),
		{Kind: api.Array, Tag: 1, Fields: ints(2)}, {Kind: api.Array, Text: "a"}, {Kind: api.Array, Fields: ints(1), Text: "a"},
		closureOf(0, ints(api.MaxFree+1)...), {Kind: api.Closure, Text: "a"}, {Kind: api.Closure, Fields: ints(1), Text: "\x00"},
		blockOf(api.MaxTag+1, 1), closureOf(api.MaxFuncs), closureOf(api.MaxTag),
	}
	for _, kind := range []int{-1, 0, 5, 6, 7, 128, 255, math.MaxInt, math.MinInt} {
		list = append(list, api.Object{Kind: kind}, api.Object{Kind: kind, Fields: ints(1)}, api.Object{Kind: kind, Text: "a"})
	}
	for _, s := range shapes() {
		// what would be the same head, were only some bits of the kind or the tag taken
		for _, shift := range []int{8, 24, 32, 40, 56} {
			o, p := s.o, s.o
			o.Kind += 1 << shift
			p.Tag += 1 << shift
			list = append(list, o, p)
		}
		for _, tag := range []int{-1, -256, math.MaxInt, math.MinInt} {
			o := s.o
			o.Tag = tag
			list = append(list, o)
		}
	}
	return list
}

// P3.1

func TestWordsAndHeads(t *testing.T) {
	for _, s := range shapes() {
		if n := object.Words(s.o); n != s.words {
			t.Errorf("Words(%v) = %d, want %d", s.o, n, s.words)
		}
		if h, ok := object.Head(s.o); !ok || h != s.head {
			t.Errorf("Head(%v) = %#x, %t, want %#x", s.o, h, ok, s.head)
		}
	}
}

func TestWordsOfTexts(t *testing.T) {
	for n := range api.MaxBytes + 1 {
		if got, want := object.Words(strOf(strings.Repeat("a", n))), 1+int(math.Ceil(float64(n)/8)); got != want {
			t.Errorf("Words of a text of %d bytes = %d, want %d", n, got, want)
		}
	}
}

func TestWordsAndHeadsOfObjectsThatMayNotBe(t *testing.T) {
	for _, o := range noObjects() {
		if n := object.Words(o); n != 0 {
			t.Errorf("Words(%v) = %d, want 0", o, n)
		}
		if h, ok := object.Head(o); ok || h != 0 {
			t.Errorf("Head(%v) = %#x, %t, want none", o, h, ok)
		}
	}
}

func TestNoFieldsAreNilOrEmpty(t *testing.T) {
	none := []uint64{}
	for _, o := range []api.Object{{Kind: api.Str, Fields: none}, {Kind: api.Array, Fields: none}, {Kind: api.Closure, Fields: none}} {
		if h, ok := object.Head(o); !ok || h != uint64(o.Kind) || object.Words(o) != 1 {
			t.Errorf("%v takes %d words, its head is %#x, %t", o, object.Words(o), h, ok)
		}
	}
	if _, ok := object.Head(api.Object{Kind: api.Block, Fields: none}); ok {
		t.Error("a block without fields has a head")
	}
}

func TestWordsAndHeadsHangNotOnFields(t *testing.T) {
	for _, w := range []uint64{0, 2, 1 << 33, 1 << 34, math.MaxUint64 - 1} {
		for _, o := range []api.Object{blockOf(0, w, w), arrayOf(w, w), closureOf(0, w, w)} {
			if h, ok := object.Head(o); !ok || h != 2<<32|uint64(o.Kind) || object.Words(o) != 3 {
				t.Errorf("%v takes %d words, its head is %#x, %t", o, object.Words(o), h, ok)
			}
		}
	}
}

func TestGoodWithoutObjects(t *testing.T) {
	for _, half := range []int{api.MinHalf, api.MinHalf + 1, 100, api.MaxHalf} {
		for space := range 2 {
			a, h := made(t, half, space)
			all(t, a, h)
		}
	}
}

func TestGoodHangsOnTheHeapsNumbers(t *testing.T) {
	a, h := laid(t, 12, 0, 0x1_0000_0003, 1, 0x3, 0x3)
	all(t, a, h, 0, 2, 3)
	far := []int{math.MaxInt, math.MinInt, -1, 1 << 31, 1 << 32, 1<<32 + 12, 1 << 62, api.MaxArena}
	for _, n := range append([]int{0, 1, 2, 4, 12, 27, 30}, far...) {
		bad(t, a, api.Heap{Base: n, Half: 12, Top: 4})
		bad(t, a, api.Heap{Base: n, Half: 12})
	}
	for _, n := range append([]int{0, 1, 6, 7, 8, 11, 13, 24, api.MaxHalf, api.MaxHalf + 1}, far...) {
		bad(t, a, api.Heap{Base: ahead, Half: n, Top: 4})
		bad(t, a, api.Heap{Base: ahead, Half: n})
	}
	for _, n := range append([]int{2, 3, -2}, far...) {
		bad(t, a, api.Heap{Base: ahead, Half: 12, Space: n})
	}
	for _, n := range append([]int{1, 5, 6, 12, 13, 24, 25}, far...) {
		bad(t, a, api.Heap{Base: ahead, Half: 12, Top: n})
	}
	for _, n := range []int{0, 2, 3, 4} {
		if !object.Good(a, api.Heap{Base: ahead, Half: 12, Top: n}) {
			t.Errorf("Good with a Top of %d: false", n)
		}
	}
}

func TestGoodHasObjectsInOneSemispace(t *testing.T) {
	// were there a word more, an array that ends with the second semispace's first words would be whole
	for top := 12; top <= 24; top++ {
		a, h := laid(t, 12, 0, append([]uint64{3 | uint64(top-1)<<32}, ints(top-1)...)...)
		if top == 12 {
			all(t, a, h, 0)
			continue
		}
		bad(t, a, h)
		h.Top = 12
		bad(t, a, h)
	}
	for top := 12; top <= 12+ahead; top++ { // the same, with words of the region behind
		a, h := laid(t, 12, 1, append([]uint64{3 | uint64(top-1)<<32}, ints(11)...)...)
		for i := range ahead {
			if !a.Set(ahead+24, i, 1) {
				t.Fatal("no region behind")
			}
		}
		if h.Top = top; top > 12 {
			bad(t, a, h)
		}
	}
	a, h := laid(t, 12, 0, slices.Repeat([]uint64{0x3}, 24)...)
	for top := 13; top <= 24; top++ {
		h.Top = top
		bad(t, a, h)
	}
}

func TestGoodTakesNoHalfThatIsTooSmallOrTooGreat(t *testing.T) {
	for _, half := range []int{1, 2, api.MinHalf - 1, api.MaxHalf + 1, 3000} {
		for space := range 2 {
			a, h := made(t, half, space)
			bad(t, a, h)
		}
	}
}

func TestGoodTakesTheWholeRegion(t *testing.T) {
	for _, n := range []int{15, 17, 31, 33} {
		a, ok := arena.New(100)
		if !ok {
			t.Fatal("no arena")
		}
		if _, ok := a.Cut(n); !ok {
			t.Fatalf("no region of %d words", n)
		}
		bad(t, a, api.Heap{Half: n / 2})
		bad(t, a, api.Heap{Half: n/2 + 1})
	}
}

func TestGoodOfARegionThatWasFreed(t *testing.T) {
	a, h := laid(t, 8, 0, 0x3)
	all(t, a, h, 0)
	if !a.Free(h.Base) {
		t.Fatal("Free: false")
	}
	bad(t, a, h)
}

func TestGoodIsWholeObjects(t *testing.T) {
	for _, s := range shapes() {
		for space := range 2 {
			a, h := made(t, 500, space)
			put(t, a, &h, s.o)
			put(t, a, &h, blockOf(9, 1))
			for top := range h.Top + 1 {
				n := h
				n.Top = top
				if want := top == 0 || top == s.words || top == h.Top; object.Good(a, n) != want {
					t.Errorf("Good of %v behind %v, up to %d: %t", blockOf(9, 1), s.o, top, !want)
				}
			}
		}
	}
}

func TestGoodTakesHeadsOfObjectsThatMayBe(t *testing.T) {
	for head, want := range map[uint64]bool{
		0x3: true, 0x4: true, 0x2: true, 0x3b04: true, // an array, a closure, a text, the last closure
		0x1_0000_0001: true, 0x1_0000_ff01: true, 0x1_0001_0001: false, 0x1_8000_0001: false, // a block's tags
		0x0: false, 0x1: false, 0x5: false, 0x6: false, 0x7: false, 0xff: false, 0x805: false, 0x1_0000_0000: false, 0x1_0000_0005: false, // kinds
		0x103: false, 0x102: false, 0x3c04: false, 0xff04: false, 0x1_0004: false, 0x100_0003: false, // tags of others
		0x9_0000_0001: false, 0x1f_0000_0004: false, 0x1_0000_0000_0003: false, 1<<63 | 0x3: false, 1<<63 | 0x2: false, 1<<63 | 0x4: false, // sizes
	} {
		for space := range 2 {
			a, h := made(t, 500, space)
			poke(t, a, h, space*500, head)
			for i := 1; i < 500; i++ {
				poke(t, a, h, space*500+i, 1) // numbers, or bytes
			}
			h.Top = 1
			if head>>32 == 1 {
				h.Top = 2
			}
			if object.Good(a, h) != want {
				t.Errorf("Good with the head %#x in semispace %d: %t", head, space, !want)
			}
			for top := 2; !want && top <= 500; top++ { // no other Top makes it one
				if h.Top = top; object.Good(a, h) {
					t.Errorf("Good with the head %#x up to %d: true", head, top)
				}
			}
		}
	}
}

func TestGoodHoldsTheLimitsOfSizes(t *testing.T) {
	for kind, most := range map[int]int{api.Block: api.MaxSize, api.Array: api.MaxArray, api.Closure: api.MaxFree} {
		for _, size := range []int{0, 1, 2, most - 1, most, most + 1, most + 2} {
			a, h := made(t, 500, 1)
			poke(t, a, h, 500, uint64(kind)|uint64(size)<<32)
			for i := range size {
				poke(t, a, h, 501+i, word.Int(int64(i)))
			}
			h.Top = 1 + size
			if want := size <= most && (size > 0 || kind != api.Block); object.Good(a, h) != want {
				t.Errorf("Good with kind %d of %d fields: %t", kind, size, !want)
			}
		}
	}
	for _, size := range []int{0, 399, 400, 401, 402, 408, 409} {
		a, h := made(t, 500, 0)
		poke(t, a, h, 0, 2|uint64(size)<<32)
		h.Top = 1 + (size+7)/8
		if want := size <= api.MaxBytes; object.Good(a, h) != want {
			t.Errorf("Good with a text of %d bytes: %t", size, !want)
		}
	}
}

func TestGoodHasNoughtsBehindATextsLastByte(t *testing.T) {
	for size := range 18 {
		long := (size + 7) / 8
		for b := range 8 * long {
			a, h := laid(t, 12, 1, append([]uint64{2 | uint64(size)<<32}, make([]uint64, long)...)...)
			for _, v := range []uint64{1, 0x80, 0xff} {
				poke(t, a, h, 12+1+b/8, v<<(b%8*8))
				if want := b < size; object.Good(a, h) != want {
					t.Errorf("Good with byte %d of a text of %d being %d: %t", b, size, v, !want)
				}
			}
		}
	}
}

func TestGoodHasFieldsThatMayBe(t *testing.T) {
	for space := range 2 {
		from := uint64(space * 16)
		for _, kind := range []uint64{api.Block, api.Array, api.Closure} {
			// objects at 0, 3, 5 and 8, the last one a text whose words look like heads; behind Top a head of an array
			a, h := laid(t, 16, space, kind|2<<32, 1, 1, 1|1<<32, 1, 3|2<<32, 1, 1, 2|16<<32, 0x3, 0x3)
			poke(t, a, h, space*16+11, 0x3)
			poke(t, a, h, (1-space)*16, 0x3)
			all(t, a, h, int(from), int(from)+3, int(from)+5, int(from)+8)
			for _, field := range []int{1, 2, 4, 6, 7} {
				for place := range uint64(40) {
					poke(t, a, h, space*16+field, 2*place)
					at := place - from
					if want := at == 0 || at == 3 || at == 5 || at == 8; object.Good(a, h) != want {
						t.Errorf("Good with a word %d of %d in semispace %d: %t", field, 2*place, space, !want)
					}
				}
				for _, w := range []uint64{1 << 32, 1<<33 - 2, 1 << 33, 1<<33 + 2*from, 1<<34 + 2*from, 1<<63 + 2*from, math.MaxUint64 - 1} {
					poke(t, a, h, space*16+field, w)
					bad(t, a, h)
				}
				for _, w := range []uint64{3, 5, 7, 11, 1<<33 + 1, 1<<63 - 1, 1<<63 + 1, math.MaxUint64} {
					poke(t, a, h, space*16+field, w)
					if !object.Good(a, h) {
						t.Errorf("Good with a word %d of %#x: false", field, w)
					}
				}
				poke(t, a, h, space*16+field, 1)
			}
		}
	}
}

func TestGoodAsksNotOfWordsOutside(t *testing.T) {
	for space := range 2 {
		a, h := laid(t, 8, space, 0x1_0000_0001, 1, 0x3)
		for i := range 8 {
			poke(t, a, h, (1-space)*8+i, math.MaxUint64-1)
		}
		for i := 3; i < 8; i++ {
			poke(t, a, h, space*8+i, math.MaxUint64-1)
		}
		all(t, a, h, space*8, space*8+2)
	}
}

// P3.2

func TestPutLaysWords(t *testing.T) {
	for space := range 2 {
		from := uint64(space * 12)
		a, h := made(t, 12, space)
		for i := range 24 {
			poke(t, a, h, i, 0xdddddddddddddddc) // each word of an object is to be written, the last one of a text whole
		}
		s := put(t, a, &h, strOf("123456789"))
		b := put(t, a, &h, blockOf(7, word.Int(-1), s))
		e := put(t, a, &h, strOf(""))
		c := put(t, a, &h, closureOf(2, b))
		r := put(t, a, &h, arrayOf())
		want := []uint64{0x9_0000_0002, 0x3837363534333231, 0x39, 0x2_0000_0701, math.MaxUint64, 2 * from, 0x2, 0x1_0000_0204, 2*from + 6, 0x3, 0xdddddddddddddddc, 0xdddddddddddddddc}
		if l := words(t, a, h); !slices.Equal(l[from:from+12], want) {
			t.Errorf("the words of semispace %d are %#x, want %#x", space, l[from:from+12], want)
		}
		for i, w := range []uint64{s, b, e, c, r} {
			if at := []uint64{0, 3, 6, 7, 9}[i]; w != 2*(from+at) {
				t.Errorf("object %d of semispace %d: %#x, want %#x", i, space, w, 2*(from+at))
			}
		}
		for i, w := range words(t, a, h) {
			if uint64(i)/12 != uint64(space) && w != 0xdddddddddddddddc {
				t.Errorf("word %d of the other semispace is %#x", i, w)
			}
		}
		all(t, a, h, int(from), int(from)+3, int(from)+6, int(from)+7, int(from)+9)
		for _, r := range []int{0, ahead + 24} {
			if l, ok := a.Words(r); !ok || !slices.Equal(l, make([]uint64, ahead)) {
				t.Errorf("the region at %d is %d", r, l)
			}
		}
	}
}

func TestPutFillsTheSemispace(t *testing.T) {
	for space := range 2 {
		a, h := made(t, 8, space)
		put(t, a, &h, arrayOf(1, 3, 5))
		for _, o := range []api.Object{arrayOf(ints(4)...), blockOf(0, ints(4)...), blockOf(0, ints(8)...), closureOf(0, ints(4)...), strOf("123456789012345678901234567"), arrayOf(ints(400)...)} {
			noPut(t, a, h, o)
		}
		put(t, a, &h, blockOf(0, ints(3)...))
		if h.Top != 8 {
			t.Errorf("the Top is %d", h.Top)
		}
		for _, o := range []api.Object{arrayOf(), strOf(""), closureOf(0), blockOf(0, 1)} {
			noPut(t, a, h, o)
		}
		all(t, a, h, space*8, space*8+4)
	}
}

func TestPutOfSmallestObjectsUpToTheLastWord(t *testing.T) {
	for space := range 2 {
		a, h := made(t, api.MaxHalf, space)
		var places []int
		for i := range api.MaxHalf {
			put(t, a, &h, arrayOf())
			places = append(places, space*api.MaxHalf+i)
		}
		noPut(t, a, h, arrayOf())
		all(t, a, h, places...)
		got(t, a, h, word.Place(space*api.MaxHalf+api.MaxHalf-1), arrayOf())
	}
}

func TestPutOfGreatestObjects(t *testing.T) {
	for space := range 2 {
		for _, s := range shapes() {
			a, h := made(t, max(s.words, api.MinHalf), space)
			got(t, a, h, put(t, a, &h, s.o), s.o)
			if s.words > api.MinHalf {
				a, h := made(t, s.words-1, space)
				noPut(t, a, h, s.o)
			}
		}
	}
}

func TestPutOfObjectsThatMayNotBe(t *testing.T) {
	a, h := made(t, 1000, 0)
	put(t, a, &h, arrayOf())
	for _, o := range noObjects() {
		noPut(t, a, h, o)
	}
}

func TestPutOfFields(t *testing.T) {
	for space := range 2 {
		from := space * 20
		a, h := made(t, 20, space)
		put(t, a, &h, blockOf(1, 1))
		put(t, a, &h, strOf("123456789"))
		poke(t, a, h, from+5, 0x3)
		poke(t, a, h, (1-space)*20, 0x3)
		for _, of := range []func(...uint64) api.Object{
			func(l ...uint64) api.Object { return blockOf(4, l...) }, arrayOf, func(l ...uint64) api.Object { return closureOf(4, l...) },
		} {
			for place := range 45 {
				w := word.Place(place)
				if place == from || place == from+2 {
					n := h
					got(t, a, n, put(t, a, &n, of(1, w, 3)), of(1, w, 3))
					poke(t, a, h, from+5, 0x3)
					continue
				}
				noPut(t, a, h, of(w)) // the place of the object itself is none of an object yet
				noPut(t, a, h, of(1, 1, w))
				noPut(t, a, h, of(1, w, 1))
			}
			for _, w := range []uint64{1<<33 - 2, 1 << 33, 1<<33 + 2*uint64(from), 1<<63 + 2*uint64(from), math.MaxUint64 - 1} {
				noPut(t, a, h, of(w))
			}
			for _, w := range []uint64{1, 3, 1<<63 - 1, 1<<63 + 1, math.MaxUint64} {
				n := h
				got(t, a, n, put(t, a, &n, of(w)), of(w))
			}
		}
	}
}

func TestTextsKeepTheirBytes(t *testing.T) {
	var every []byte
	for b := range 256 {
		every = append(every, byte(b))
	}
	texts := []string{"", "\x00", "\x00\x00\x00\x00\x00\x00\x00", "\x00\x00\x00\x00\x00\x00\x00\x00", "\x00\x00\x00\x00\x00\x00\x00\x00\x00", "\xff\xfe\x80", "żółw", "1234567", "12345678", "123456789", string(every), strings.Repeat("\xff", api.MaxBytes)}
	a, h := made(t, 500, 1)
	var places []uint64
	for _, s := range texts {
		places = append(places, put(t, a, &h, strOf(s)))
	}
	for i, w := range places {
		got(t, a, h, w, strOf(texts[i]))
	}
}

func TestGetOfWordsThatAreNoObjectsPlace(t *testing.T) {
	for space := range 2 {
		from := space * 16
		a, h := made(t, 16, space)
		put(t, a, &h, strOf("12345678")) // at 0, then 2, 5, 6
		put(t, a, &h, blockOf(3, 1, word.Place(from)))
		put(t, a, &h, arrayOf())
		put(t, a, &h, closureOf(1, 1))
		poke(t, a, h, from+1, 0x3)
		poke(t, a, h, from+8, 0x3)
		poke(t, a, h, (1-space)*16, 0x3)
		for place := range 40 {
			if at := place - from; at == 0 || at == 2 || at == 5 || at == 6 {
				if _, ok := object.Get(a, h, word.Place(place)); !ok {
					t.Errorf("Get of place %d: none", place)
				}
				continue
			}
			noGet(t, a, h, word.Place(place))
			noSet(t, a, h, word.Place(place), 0, 1)
		}
		for _, w := range []uint64{1, 3, 5, 2*uint64(from) + 1, 1<<33 - 2, 1 << 33, 1<<33 + 2*uint64(from), 1<<63 + 2*uint64(from), math.MaxUint64 - 1, math.MaxUint64} {
			noGet(t, a, h, w)
			noSet(t, a, h, w, 0, 1)
		}
	}
}

func TestGetOfALowerTop(t *testing.T) {
	a, h := made(t, 16, 0)
	first := put(t, a, &h, arrayOf(1))
	low := h
	second := put(t, a, &h, arrayOf(3))
	got(t, a, low, first, arrayOf(1))
	got(t, a, h, second, arrayOf(3))
	noGet(t, a, low, second)
	noSet(t, a, low, second, 0, 5)
	noSet(t, a, low, first, 0, second)
	got(t, a, h, second, arrayOf(3))
}

func TestSetChangesOneField(t *testing.T) {
	for space := range 2 {
		a, h := made(t, 600, space)
		s := put(t, a, &h, strOf("abc"))
		for _, o := range []api.Object{blockOf(5, ints(1)...), blockOf(5, ints(8)...), closureOf(9, ints(30)...), arrayOf(ints(400)...)} {
			w := put(t, a, &h, o)
			later := put(t, a, &h, arrayOf(11))
			for _, v := range []uint64{s, w, later, 1, math.MaxUint64, 1<<63 + 1} {
				for _, i := range []int{0, len(o.Fields) / 2, len(o.Fields) - 1} {
					want := words(t, a, h)
					at, _ := word.At(w)
					want[at+1+i] = v
					if !object.Set(a, h, w, i, v) {
						t.Errorf("Set(%#x, %d, %#x) of %v: false", w, i, v, o)
					}
					o.Fields[i] = v
					got(t, a, h, w, o)
					if l := words(t, a, h); !slices.Equal(l, want) {
						t.Errorf("Set(%#x, %d, %#x) of %v changed more", w, i, v, o)
					}
				}
			}
			got(t, a, h, later, arrayOf(11))
			got(t, a, h, s, strOf("abc"))
		}
		if l, ok := a.Words(0); !ok || !slices.Equal(l, make([]uint64, ahead)) {
			t.Errorf("the region ahead is %d", l)
		}
	}
}

func TestSetOfFieldsThatAreNone(t *testing.T) {
	for space := range 2 {
		a, h := made(t, 40, space)
		for _, o := range []api.Object{strOf(""), strOf("1234567"), strOf("12345678"), strOf("123456789"), arrayOf(), closureOf(1), blockOf(0, 1), blockOf(0, 1, 3), arrayOf(1, 3, 5), closureOf(0, 1)} {
			w := put(t, a, &h, o)
			n := len(o.Fields)
			for _, i := range []int{-1, -2, n, n + 1, 1 << 32, 1<<32 + n, math.MaxInt, math.MinInt, math.MaxInt - 1} {
				noSet(t, a, h, w, i, 1)
				noSet(t, a, h, w, i, w)
			}
		}
	}
}

func TestSetOfWordsThatMayBeNoField(t *testing.T) {
	for space := range 2 {
		from := space * 16
		a, h := made(t, 16, space)
		b := put(t, a, &h, blockOf(3, 1, 3))
		put(t, a, &h, strOf("12345678"))
		poke(t, a, h, from+4, 0x3)
		poke(t, a, h, from+5, 0x3)
		poke(t, a, h, (1-space)*16, 0x3)
		for place := range 40 {
			if place != from && place != from+3 {
				noSet(t, a, h, b, 0, word.Place(place))
				noSet(t, a, h, b, 1, word.Place(place))
			}
		}
		for _, w := range []uint64{1<<33 - 2, 1 << 33, 1<<33 + 2*uint64(from), 1<<63 + 2*uint64(from), math.MaxUint64 - 1} {
			noSet(t, a, h, b, 0, w)
		}
	}
}

func TestHeapsThatMayNotBe(t *testing.T) {
	for space := range 2 {
		// a block, then one that points within it
		a, h := laid(t, 12, space, 0x2_0000_0001, 1, 3, 0x1_0000_0001, 2*uint64(space*12+1))
		bad(t, a, h)
		first, second := word.Place(space*12), word.Place(space*12+3)
		for _, w := range []uint64{first, second} { // one object that may not be takes all others with it
			noGet(t, a, h, w)
			noSet(t, a, h, w, 0, 1)
		}
		noPut(t, a, h, blockOf(0, 1))
		poke(t, a, h, space*12+4, first)
		got(t, a, h, second, blockOf(0, first))
		poke(t, a, h, space*12, 0x0_0000_0005) // what is left of one that was moved
		bad(t, a, h)
		poke(t, a, h, space*12, 0x2_0000_0005)
		bad(t, a, h)
	}
}

func TestNilArena(t *testing.T) {
	for _, h := range []api.Heap{{}, {Half: 8}, {Half: 8, Space: 1}, {Half: 8, Top: 1}, {Base: 3, Half: api.MaxHalf}, {Base: -1, Half: -8, Space: -1, Top: -1}} {
		bad(t, nil, h)
	}
}

func TestArgumentsAreNotChangedNorKept(t *testing.T) {
	a, h := made(t, 20, 0)
	row := append(ints(6), 70, 72, 74)
	fields := row[1:4]
	w := put(t, a, &h, blockOf(1, fields...))
	if !slices.Equal(row, append(ints(6), 70, 72, 74)) {
		t.Errorf("the fields handed in are now in %d", row)
	}
	for i := range row {
		row[i] = 2
	}
	got(t, a, h, w, blockOf(1, ints(6)[1:4]...))
	if !object.Set(a, h, w, 0, 9) {
		t.Error("Set: false")
	}
	if row[1] != 2 {
		t.Error("Set changed the fields that were handed in")
	}
	object.Words(blockOf(1, row...))
	object.Head(blockOf(1, row...))
	noPut(t, a, h, blockOf(1, row[:3:3]...))
	if !slices.Equal(row, slices.Repeat([]uint64{2}, 9)) {
		t.Errorf("the fields handed in are now in %d", row)
	}
}

func TestAnswersAreNewMemory(t *testing.T) {
	a, h := made(t, 20, 0)
	w := put(t, a, &h, arrayOf(1, 3, 5))
	s := put(t, a, &h, strOf("abc"))
	one, _ := object.Get(a, h, w)
	other, _ := object.Get(a, h, w)
	for i := range one.Fields {
		one.Fields[i] = 2
	}
	_ = append(one.Fields, 2, 2, 2, 2)
	if !slices.Equal(other.Fields, []uint64{1, 3, 5}) {
		t.Errorf("one answer changed another: %d", other.Fields)
	}
	got(t, a, h, w, arrayOf(1, 3, 5))
	list, _ := object.All(a, h)
	more, _ := object.All(a, h)
	for i := range list {
		list[i] = 9
	}
	_ = append(list, 9, 9)
	if !slices.Equal(more, []int{0, 4}) {
		t.Errorf("one answer changed another: %d", more)
	}
	all(t, a, h, 0, 4)
	if !object.Set(a, h, w, 0, s) {
		t.Error("Set: false")
	}
	if other.Fields[0] != 1 {
		t.Error("Set changed what was told")
	}
}

// P3.3

// dice are numbers that look thrown, the same each time.
type dice uint64

func (d *dice) under(n int) int {
	*d = *d*6364136223846793005 + 1442695040888963407
	return int(uint64(*d) >> 33 % uint64(n))
}

// field is a number's word, or one of those.
func (d *dice) field(places []uint64) uint64 {
	if len(places) == 0 || d.under(2) == 0 {
		return word.Int(int64(d.under(1000)) - 500)
	}
	return places[d.under(len(places))]
}

// object is some object whose fields are numbers' words or those.
func (d *dice) object(places []uint64) api.Object {
	o := api.Object{Kind: 1 + d.under(4)}
	n := d.under(6)
	switch o.Kind {
	case api.Block:
		o.Tag, n = d.under(api.MaxTag+1), n+1
	case api.Closure:
		o.Tag = d.under(api.MaxFuncs)
	case api.Str:
		text := make([]byte, d.under(20))
		for i := range text {
			text[i] = byte(d.under(256))
		}
		o.Text = string(text)
		return o
	}
	for range n {
		o.Fields = append(o.Fields, d.field(places))
	}
	return o
}

// life puts and sets, as the dice say, till the semispace is full; it expects that all objects are got as they were put.
func life(t *testing.T, d *dice, half, space int) (*arena.Arena, api.Heap) {
	t.Helper()
	a, h := made(t, half, space)
	var places []uint64
	var want []api.Object
	for turn := 0; ; turn++ {
		o := d.object(places)
		if object.Words(o) > half-h.Top {
			noPut(t, a, h, o)
			return a, h
		}
		places = append(places, put(t, a, &h, o))
		o.Fields = slices.Clone(o.Fields)
		want = append(want, o)
		if k := d.under(len(want)); len(want[k].Fields) > 0 {
			i, v := d.under(len(want[k].Fields)), d.field(places)
			if !object.Set(a, h, places[k], i, v) {
				t.Fatalf("Set(%v, %#x, %d, %#x): false", h, places[k], i, v)
			}
			want[k].Fields[i] = v
		}
		var at []int
		for i, w := range places {
			got(t, a, h, w, want[i])
			at = append(at, int(w/2))
		}
		all(t, a, h, at...)
	}
}

func TestWhatWasPutIsGot(t *testing.T) {
	d := dice(1)
	for i := range 60 {
		life(t, &d, api.MinHalf+i*2, i%2)
	}
}

// mayBe says whether a heap may be, told most plainly: of the bytes of its words, each object's head found anew for each field.
func mayBe(region []uint64, h api.Heap) bool {
	from := h.Space * h.Half
	held := region[from : from+h.Top]
	heads := map[uint64]int{} // of each place's word how many fields the object there has
	for at := 0; at < len(held); {
		head := binary.LittleEndian.AppendUint64(nil, held[at])
		kind, tag := head[0], int(head[1])+int(head[2])*256+int(head[3])*65536
		size, fields := int(binary.LittleEndian.Uint32(head[4:])), 0
		heads[uint64(from+at)*2] = 0
		at++
		switch {
		case kind == 2 && tag == 0 && size <= 400:
			var text []byte
			for range size/8 + min(size%8, 1) {
				if at == len(held) {
					return false
				}
				text = binary.LittleEndian.AppendUint64(text, held[at])
				at++
			}
			if len(bytes.Trim(text[size:], "\x00")) > 0 {
				return false
			}
			continue
		case kind == 1 && tag <= 255 && size >= 1 && size <= 8, kind == 3 && tag == 0 && size <= 400, kind == 4 && tag <= 59 && size <= 30:
			fields = size
		default:
			return false
		}
		heads[uint64(from+at-1)*2] = fields
		at += fields
		if at > len(held) {
			return false
		}
	}
	for w, fields := range heads {
		for i := range fields {
			v := region[int(w/2)+1+i]
			if _, ok := heads[v]; !ok && v&1 == 0 {
				return false
			}
		}
	}
	return true
}

// TestTurnedBits turns each bit of each word of some heaps: the heap may be just where the plain telling says so.
func TestTurnedBits(t *testing.T) {
	d := dice(2)
	for i := range 24 {
		a, h := life(t, &d, api.MinHalf+i, i%2)
		region := words(t, a, h)
		still := 0
		for at, was := range region {
			for bit := range 64 {
				region[at] = was ^ 1<<bit
				poke(t, a, h, at, region[at])
				if want := mayBe(region, h); object.Good(a, h) != want {
					t.Errorf("Good(%v) of %#x: %t", h, region, !want)
				} else if want {
					still++
				}
			}
			region[at] = was
			poke(t, a, h, at, was)
		}
		if still <= 64*h.Half || !object.Good(a, h) { // the other semispace's bits are free to turn, and some of the numbers'
			t.Errorf("of the heaps with one bit turned only %d may be", still)
		}
	}
}

// TestThrownWords fills semispaces with words that are heads, places and numbers as the dice say.
func TestThrownWords(t *testing.T) {
	d := dice(3)
	may := 0
	for i := range 40000 {
		a, h := made(t, api.MinHalf, i%2)
		h.Top = d.under(api.MinHalf + 1)
		for at := range 2 * h.Half {
			w := uint64(d.under(5)) | uint64(d.under(3))<<32
			switch d.under(3) {
			case 0:
				w = word.Place(d.under(2 * h.Half))
			case 1:
				w = word.Int(int64(d.under(9)))
			}
			poke(t, a, h, at, w)
		}
		want := mayBe(words(t, a, h), h)
		if object.Good(a, h) != want {
			t.Errorf("Good(%v) of %#x: %t", h, words(t, a, h), !want)
		}
		if want && h.Top > 0 {
			may++
		}
	}
	if may < 1000 {
		t.Errorf("only %d of the heaps may be", may)
	}
}
