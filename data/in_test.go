package data_test

import (
	"math"
	"math/rand"
	"slices"
	"strings"
	"testing"

	"stockpot/api"
	"stockpot/arena"
	"stockpot/data"
	"stockpot/object"
	"stockpot/word"
)

// P10.2: In

func TestInLaysWordByWord(t *testing.T) {
	m := api.Message{block(7, 4), str("123456789"), num(-1), block(255, 1), block(0, 2), num(least), str(""), num(most)}
	for _, space := range []int{0, 1} {
		a, h := made(t, 40, space)
		first := put(t, a, &h, api.Object{Kind: api.Array, Fields: []uint64{5, 7}})
		at := 40*space + 3
		w := in(t, a, &h, m)
		want := []uint64{
			0x4_0000_0701, word.Place(at + 5), math.MaxUint64, word.Place(at + 8), 1<<63 - 1,
			0x9_0000_0002, 0x3837363534333231, 0x39,
			0x1_0000_ff01, word.Place(at + 10),
			0x2_0000_0001, 1<<63 + 1, word.Place(at + 13),
			0x2,
		}
		if l, _ := a.Words(h.Base); !slices.Equal(l[at:at+14], want) || w != word.Place(at) || h.Top != 17 || l[at+14] != litter {
			t.Errorf("%#x were laid, up to %d, want %#x; the whole is %#x", l[at:at+15], h.Top, want, w)
		}
		out(t, a, h, w, m)
		if o, ok := object.Get(a, h, first); !ok || !slices.Equal(o.Fields, []uint64{5, 7}) {
			t.Errorf("what was there is %v, %t", o, ok)
		}
	}
}

func TestInOfNumbers(t *testing.T) {
	for _, space := range []int{0, 1} {
		empty, e := made(t, 8, space)
		full, f, _ := stocked(t, 17, space)
		if f.Top != f.Half {
			t.Fatalf("%v has room", f)
		}
		for _, n := range []int64{least, least + 1, -1, 0, 1, 1 << 40, most - 1, most} {
			if w := in(t, empty, &e, api.Message{num(n)}); w != word.Int(n) || e.Top != 0 {
				t.Errorf("%d is %#x, up to %d", n, w, e.Top)
			}
			if w := in(t, full, &f, api.Message{num(n)}); w != word.Int(n) || f.Top != 17 {
				t.Errorf("%d is %#x, up to %d", n, w, f.Top)
			}
		}
	}
}

func TestInJustTheRoom(t *testing.T) {
	r := rand.New(rand.NewSource(3))
	trees := []tree{
		strTree(""), strTree("a"), strTree("12345678"), strTree("123456789"), strTree(strings.Repeat("x", api.MaxBytes)),
		blockTree(1, numberTree(1)), blockTree(1, strTree("")), blockTree(1, strTree(""), numberTree(1)), blockTree(1, numberTree(1), strTree("ab")),
		blockTree(0, blockTree(0, blockTree(0, strTree("x")))), listTree(slices.Repeat([]tree{strTree("ab")}, 30)...),
		chainTree(api.MaxCells), wideTree(api.MaxCells),
	}
	for range 100 {
		trees = append(trees, someTree(r, 60))
	}
	for _, x := range trees {
		m := x.message()
		words, _ := x.words(0)
		if len(words) == 0 {
			continue
		}
		for _, space := range []int{0, 1} {
			for _, taken := range []int{0, 1, 7, 40} {
				half := max(len(words)+taken, api.MinHalf)
				a, h := made(t, half, space)
				for h.Top < half-len(words) {
					put(t, a, &h, api.Object{Kind: api.Str})
				}
				w := in(t, a, &h, m)
				if h.Top != half {
					t.Errorf("%v takes up to %d of %d", m, h.Top, half)
				}
				out(t, a, h, w, m)

				a, h = made(t, half, space)
				for h.Top < half-len(words)+1 {
					put(t, a, &h, api.Object{Kind: api.Str})
				}
				noIn(t, a, h, m)
			}
		}
	}
}

func TestInAGreatHeap(t *testing.T) {
	x := blockTree(0)
	for i := range 8 {
		x.has = append(x.has, listTree(slices.Repeat([]tree{strTree(strings.Repeat(string(rune('a'+i)), api.MaxBytes))}, 4)...))
	}
	words, _ := x.words(0)
	if len(words) < 1700 || len(words) > api.MaxHalf {
		t.Fatalf("%d words", len(words))
	}
	for _, space := range []int{0, 1} {
		a, h := made(t, api.MaxHalf, space)
		out(t, a, h, in(t, a, &h, x.message()), x.message())
		noIn(t, a, h, x.message())
	}
	long := blockTree(0)
	for range 8 {
		long.has = append(long.has, listTree(slices.Repeat([]tree{strTree(strings.Repeat("x", api.MaxBytes))}, 5)...))
	}
	if n := data.Words(long.message()); n <= api.MaxHalf {
		t.Fatalf("%d words", n)
	}
	a, h := made(t, api.MaxHalf, 0)
	noIn(t, a, h, long.message())
}

func TestInOfHeapsThatMayNotBe(t *testing.T) {
	messages := []api.Message{{num(1)}, {str("")}, {str("salt")}, theList(), nil, {block(1, 1)}}
	for _, space := range []int{0, 1} {
		a, h := ready(t, space)
		before := everything(a)
		wrongHeaps(a, h, func(a *arena.Arena, h api.Heap) {
			for _, m := range messages {
				noIn(t, a, h, m)
			}
		})
		unchanged(t, a, before)
		in(t, a, &h, theList())
	}
}

func TestInOfMessagesThatMayNotBe(t *testing.T) {
	a, h := made(t, 300, 0)
	put(t, a, &h, api.Object{Kind: api.Str, Text: "abc"})
	short(4, func(m api.Message) {
		if _, ok := plainTree(m); !ok {
			noIn(t, a, h, m)
		}
	})
	// what may be comes first, what may not be last
	for _, c := range []api.Cell{num(most + 1), {Tag: 1}, {Kind: api.Array}, block(0, 0), str(strings.Repeat("x", api.MaxBytes+1))} {
		noIn(t, a, h, api.Message{block(0, 3), str("first"), block(1, 1), num(1), c})
	}
	noIn(t, a, h, wideTree(api.MaxCells+1).message())
}

// P10.3

func TestOutOfInIsTheMessage(t *testing.T) {
	r := rand.New(rand.NewSource(4))
	laid, full := 0, 0
	for range 400 {
		a, h := made(t, 8+r.Intn(400), r.Intn(2))
		had := map[uint64]api.Message{}
		for range 12 {
			m := someTree(r, 1+r.Intn(api.MaxCells)).message()
			if data.Words(m) > h.Half-h.Top {
				noIn(t, a, h, m)
				full++
				continue
			}
			w := in(t, a, &h, m)
			laid++
			if !object.Good(a, h) {
				t.Fatalf("behind In of %v the heap %v may not be", m, h)
			}
			had[w] = m
			for w, m := range had {
				out(t, a, h, w, m)
			}
		}
	}
	if laid < 2000 || full < 20 {
		t.Errorf("%d were laid, %d were too many", laid, full)
	}
}

func TestOutOfInOfEachShortMessage(t *testing.T) {
	a, h := made(t, 40, 1)
	put(t, a, &h, api.Object{Kind: api.Closure, Tag: 1, Fields: []uint64{9}})
	short(5, func(m api.Message) {
		if _, ok := plainTree(m); ok {
			n := h
			w := in(t, a, &n, m)
			out(t, a, n, w, m)
		}
	})
}
