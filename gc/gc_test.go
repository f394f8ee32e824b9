package gc_test

import (
	"math"
	"slices"
	"strings"
	"testing"

	"stockpot/api"
	"stockpot/arena"
	"stockpot/gc"
	"stockpot/object"
	"stockpot/word"
)

// ahead is how many words of the arena lie in another region ahead of the heap's; so many lie in one behind it.
const ahead = 3

// litter is what the words that no object takes hold ahead of a collection: it looks like the head of a block.
const litter = 0x1_0000_0001

// made is an arena with a heap that has no objects, its words full of litter, a region on either side of it.
func made(t *testing.T, half, space int) (*arena.Arena, api.Heap) {
	t.Helper()
	a, ok := arena.New(2*half + 2*ahead)
	if !ok {
		t.Fatalf("no arena for two times %d words", half)
	}
	for _, n := range []int{ahead, 2 * half, ahead} {
		base, ok := a.Cut(n)
		if !ok {
			t.Fatalf("no region of %d words", n)
		}
		for at := range n {
			a.Set(base, at, litter)
		}
	}
	return a, api.Heap{Base: ahead, Half: half, Space: space}
}

// put lays the object in the heap.
func put(t *testing.T, a *arena.Arena, h *api.Heap, o api.Object) uint64 {
	t.Helper()
	n, w, ok := object.Put(a, *h, o)
	if !ok {
		t.Fatalf("Put(%v, %v): false", *h, o)
	}
	*h = n
	return w
}

// set makes v field i of the object at w.
func set(t *testing.T, a *arena.Arena, h api.Heap, w uint64, i int, v uint64) {
	t.Helper()
	if !object.Set(a, h, w, i, v) {
		t.Fatalf("Set(%v, %#x, %d, %#x): false", h, w, i, v)
	}
}

// poke makes w the word at that place of the heap's region.
func poke(t *testing.T, a *arena.Arena, h api.Heap, place int, w uint64) {
	t.Helper()
	if !a.Set(h.Base, place, w) {
		t.Fatalf("no place %d in the region at %d", place, h.Base)
	}
}

func blockOf(tag int, fields ...uint64) api.Object {
	return api.Object{Kind: api.Block, Tag: tag, Fields: fields}
}

func arrayOf(fields ...uint64) api.Object { return api.Object{Kind: api.Array, Fields: fields} }

func closureOf(function int, fields ...uint64) api.Object {
	return api.Object{Kind: api.Closure, Tag: function, Fields: fields}
}

func strOf(text string) api.Object { return api.Object{Kind: api.Str, Text: text} }

// everything is the words of each region of the arena.
func everything(a *arena.Arena) [][]uint64 {
	var whole [][]uint64
	for _, r := range a.Regions() {
		l, _ := a.Words(r[0])
		whole = append(whole, l)
	}
	return whole
}

// unchanged expects that the arena's regions hold what they held before.
func unchanged(t *testing.T, a *arena.Arena, before [][]uint64) {
	t.Helper()
	if now := everything(a); !slices.EqualFunc(now, before, slices.Equal) {
		t.Errorf("the arena holds %#x, and held %#x", now, before)
	}
}

// held is each object of a heap, by its place's word.
func held(t *testing.T, a *arena.Arena, h api.Heap) map[uint64]api.Object {
	t.Helper()
	places, ok := object.All(a, h)
	if !ok {
		t.Fatalf("All(%v): false", h)
	}
	all := map[uint64]api.Object{}
	for _, at := range places {
		all[word.Place(at)], _ = object.Get(a, h, word.Place(at))
	}
	return all
}

// told is what a collection must come to, told most plainly: the objects are put into a heap of another arena, one behind the other, and their fields set when the places of all are known.
func told(t *testing.T, a *arena.Arena, h api.Heap, roots []uint64) (api.Heap, []uint64, []uint64) {
	t.Helper()
	objects := held(t, a, h)
	var row []uint64
	for _, w := range roots {
		if !word.IsInt(w) && !slices.Contains(row, w) {
			row = append(row, w)
		}
	}
	for i := 0; i < len(row); i++ {
		for _, w := range objects[row[i]].Fields {
			if !word.IsInt(w) && !slices.Contains(row, w) {
				row = append(row, w)
			}
		}
	}
	b, _ := arena.New(2 * h.Half)
	b.Cut(2 * h.Half)
	n := api.Heap{Half: h.Half, Space: 1 - h.Space}
	to := map[uint64]uint64{}
	for _, w := range row {
		o := objects[w]
		o.Fields = slices.Repeat([]uint64{word.Int(0)}, len(o.Fields))
		to[w] = put(t, b, &n, o)
	}
	there := func(w uint64) uint64 {
		if word.IsInt(w) {
			return w
		}
		return to[w]
	}
	for _, w := range row {
		for i, v := range objects[w].Fields {
			set(t, b, n, to[w], i, there(v))
		}
	}
	var r []uint64
	for _, w := range roots {
		r = append(r, there(w))
	}
	words, _ := b.Words(0)
	n.Base = h.Base
	return n, r, words
}

// lives expects that so many words are live, and that asking changes nothing.
func lives(t *testing.T, a *arena.Arena, h api.Heap, want int, roots ...uint64) {
	t.Helper()
	before := everything(a)
	given := slices.Clone(roots)
	if n, ok := gc.Live(a, h, given); n != want || !ok {
		t.Errorf("Live(%v, %#x) = %d, %t, want %d", h, roots, n, ok, want)
	}
	if !slices.Equal(given, roots) {
		t.Errorf("Live(%v, %#x) made the roots %#x", h, roots, given)
	}
	unchanged(t, a, before)
}

// collecting asks for a collection by that call, and expects that it comes to what is told plainly, in each word of the region, and that nothing else changes.
func collecting(t *testing.T, a *arena.Arena, h api.Heap, roots []uint64, call func([]uint64) (api.Heap, []uint64, bool), wantOK bool) (api.Heap, []uint64) {
	t.Helper()
	before := everything(a)
	want, wantRoots, wantWords := told(t, a, h, roots)
	given := slices.Clone(roots)
	n, r, ok := call(given)
	if ok != wantOK || n != want || !slices.Equal(r, wantRoots) {
		t.Fatalf("of %v, %#x: %v, %#x, %t, want %v, %#x, %t", h, roots, n, r, ok, want, wantRoots, wantOK)
	}
	if !slices.Equal(given, roots) {
		t.Errorf("of %v, %#x: the roots that were handed in are now %#x", h, roots, given)
	}
	if words, _ := a.Words(h.Base); !slices.Equal(words, wantWords) {
		t.Errorf("of %v, %#x: the words %#x, want %#x", h, roots, words, wantWords)
	}
	before[1] = wantWords // the heap's region is the second one
	unchanged(t, a, before)
	return n, r
}

// collected expects that a collection comes to what is told plainly, and that as many words were live.
func collected(t *testing.T, a *arena.Arena, h api.Heap, roots ...uint64) (api.Heap, []uint64) {
	t.Helper()
	want, _, _ := told(t, a, h, roots)
	lives(t, a, h, want.Top, roots...)
	return collecting(t, a, h, roots, func(given []uint64) (api.Heap, []uint64, bool) { return gc.Collect(a, h, given) }, true)
}

// noCollection expects that each call tells false and nothing else, and that nothing changes.
func noCollection(t *testing.T, a *arena.Arena, h api.Heap, roots ...uint64) {
	t.Helper()
	before := everything(a)
	given := slices.Clone(roots)
	if n, r, ok := gc.Collect(a, h, given); ok || n != (api.Heap{}) || len(r) != 0 {
		t.Errorf("Collect(%v, %#x) = %v, %#x, %t, want none", h, roots, n, r, ok)
	}
	unchanged(t, a, before)
	if n, ok := gc.Live(a, h, given); ok || n != 0 {
		t.Errorf("Live(%v, %#x) = %d, %t, want none", h, roots, n, ok)
	}
	for _, n := range []int{math.MinInt, -1, 0, 1, h.Half - h.Top, h.Half - h.Top + 1, h.Half, math.MaxInt} {
		noRoom(t, a, h, n, given...)
	}
	if !slices.Equal(given, roots) {
		t.Errorf("of %v, %#x: the roots that were handed in are now %#x", h, roots, given)
	}
	unchanged(t, a, before)
}

// noRoom expects that Room tells false and nothing else, and that nothing changes.
func noRoom(t *testing.T, a *arena.Arena, h api.Heap, n int, roots ...uint64) {
	t.Helper()
	before := everything(a)
	if m, r, ok := gc.Room(a, h, roots, n); ok || m != (api.Heap{}) || len(r) != 0 {
		t.Errorf("Room(%v, %#x, %d) = %v, %#x, %t, want none", h, roots, n, m, r, ok)
	}
	unchanged(t, a, before)
}

// stays expects that there is room without a collection, and that nothing changes.
func stays(t *testing.T, a *arena.Arena, h api.Heap, n int, roots ...uint64) {
	t.Helper()
	before := everything(a)
	given := slices.Clone(roots)
	if m, r, ok := gc.Room(a, h, given, n); !ok || m != h || !slices.Equal(r, roots) {
		t.Errorf("Room(%v, %#x, %d) = %v, %#x, %t, want them as they are", h, roots, n, m, r, ok)
	}
	if !slices.Equal(given, roots) {
		t.Errorf("Room(%v, %#x, %d) made the roots %#x", h, roots, n, given)
	}
	unchanged(t, a, before)
}

// makesRoom expects that Room collects, and then tells whether there is room.
func makesRoom(t *testing.T, a *arena.Arena, h api.Heap, n int, wantOK bool, roots ...uint64) (api.Heap, []uint64) {
	t.Helper()
	return collecting(t, a, h, roots, func(given []uint64) (api.Heap, []uint64, bool) { return gc.Room(a, h, given, n) }, wantOK)
}

// alike expects that what the words lead to is the same, object by object: those of the one list in the objects before, those of the other in the objects now.
func alike(t *testing.T, before, now map[uint64]api.Object, from, to []uint64) {
	t.Helper()
	there, back := map[uint64]uint64{}, map[uint64]uint64{}
	var both func(from, to []uint64)
	both = func(from, to []uint64) {
		if len(from) != len(to) {
			t.Fatalf("%#x is now %#x", from, to)
		}
		for i, v := range from {
			w := to[i]
			if word.IsInt(v) || word.IsInt(w) {
				if v != w {
					t.Fatalf("the number's word %#x is now %#x", v, w)
				}
				continue
			}
			w1, seen := there[v]
			v1, met := back[w]
			if seen != met || seen && (w1 != w || v1 != v) {
				t.Fatalf("one object is two, or two are one: %#x is now %#x", v, w)
			}
			if seen {
				continue
			}
			there[v], back[w] = w, v
			o, was := before[v]
			p, is := now[w]
			if !was || !is || o.Kind != p.Kind || o.Tag != p.Tag || o.Text != p.Text {
				t.Fatalf("%v at %#x is now %v at %#x", o, v, p, w)
			}
			both(o.Fields, p.Fields)
		}
	}
	both(from, to)
	if len(there) != len(now) {
		t.Errorf("%d objects are led to, and there are %d", len(there), len(now))
	}
}

// dice are numbers that look thrown, the same each time.
type dice uint64

func (d *dice) under(n int) int {
	*d = *d*6364136223846793005 + 1442695040888963407
	return int(uint64(*d) >> 33 % uint64(n))
}

// word is a number's word, or one of those.
func (d *dice) word(places []uint64) uint64 {
	if len(places) == 0 || d.under(3) == 0 {
		return word.Int(int64(d.under(1000)) - 500)
	}
	return places[d.under(len(places))]
}

// object is some object whose fields are numbers' words or those.
func (d *dice) object(places []uint64) api.Object {
	o := api.Object{Kind: 1 + d.under(4)}
	n := d.under(5)
	switch o.Kind {
	case api.Block:
		o.Tag, n = d.under(api.MaxTag+1), n+1
	case api.Closure:
		o.Tag = d.under(api.MaxFuncs)
	case api.Str:
		text := make([]byte, d.under(20))
		for i := range text {
			text[i] = byte(d.under(256))
		}
		o.Text = string(text)
		return o
	}
	for range n {
		o.Fields = append(o.Fields, d.word(places))
	}
	return o
}

// fill puts objects till the next one has no room, and sets fields so that they point ahead as well as back; it adds the objects' words to those.
func fill(t *testing.T, d *dice, a *arena.Arena, h *api.Heap, places []uint64) []uint64 {
	t.Helper()
	for {
		o := d.object(places)
		if object.Words(o) > h.Half-h.Top {
			break
		}
		places = append(places, put(t, a, h, o))
	}
	for _, w := range places {
		if o, _ := object.Get(a, *h, w); len(o.Fields) > 0 && d.under(2) == 0 {
			set(t, a, *h, w, d.under(len(o.Fields)), d.word(places))
		}
	}
	return places
}

// P4.1

func TestNoRoots(t *testing.T) {
	for space := range 2 {
		a, h := made(t, 20, space)
		h, _ = collected(t, a, h)
		s := put(t, a, &h, strOf("salt"))
		put(t, a, &h, blockOf(1, s, word.Int(3)))
		h, _ = collected(t, a, h)
		if want := (api.Heap{Base: ahead, Half: 20, Space: space}); h != want {
			t.Errorf("behind two collections: %v, want %v", h, want)
		}
		for place := range 40 {
			if w, _ := a.Get(ahead, place); w != 0 {
				t.Errorf("place %d holds %#x", place, w)
			}
		}
		lives(t, a, h, 0)
	}
}

func TestNilRootsAreNoRoots(t *testing.T) {
	a, h := made(t, 8, 0)
	put(t, a, &h, arrayOf())
	if n, ok := gc.Live(a, h, nil); n != 0 || !ok {
		t.Errorf("Live = %d, %t", n, ok)
	}
	if m, r, ok := gc.Room(a, h, nil, 7); !ok || m != h || len(r) != 0 {
		t.Errorf("Room = %v, %#x, %t", m, r, ok)
	}
	if n, r, ok := gc.Collect(a, h, nil); !ok || n != (api.Heap{Base: ahead, Half: 8, Space: 1}) || len(r) != 0 {
		t.Errorf("Collect = %v, %#x, %t", n, r, ok)
	}
}

func TestTwoRootsToOneObject(t *testing.T) {
	for space := range 2 {
		a, h := made(t, 20, space)
		put(t, a, &h, strOf("nobody's"))
		w := put(t, a, &h, blockOf(7, word.Int(1), word.Int(2)))
		lives(t, a, h, 3, w)
		lives(t, a, h, 3, w, w)
		h, roots := collected(t, a, h, w, word.Int(4), w, w)
		first := word.Place((1 - space) * 20)
		if want := []uint64{first, word.Int(4), first, first}; h.Top != 3 || !slices.Equal(roots, want) {
			t.Errorf("%v with the roots %#x, want %#x", h, roots, want)
		}
	}
}

func TestRootsThatAreNumbers(t *testing.T) {
	a, h := made(t, 20, 0)
	w := put(t, a, &h, arrayOf(word.Int(1)))
	put(t, a, &h, arrayOf())
	numbers := []uint64{1, 3, 5, word.Int(-1), word.Int(1<<62 - 1), word.Int(-1 << 62), 1<<63 + 1, math.MaxUint64, w + 1, word.Int(20)}
	lives(t, a, h, 0, numbers...)
	h, roots := collected(t, a, h, numbers...)
	if h.Top != 0 || !slices.Equal(roots, numbers) {
		t.Errorf("%v with the roots %#x", h, roots)
	}
}

func TestRings(t *testing.T) {
	for space := range 2 {
		a, h := made(t, 40, space)
		put(t, a, &h, strOf("none comes here"))
		self := put(t, a, &h, blockOf(1, 1, 1))
		one := put(t, a, &h, blockOf(2, 1))
		two := put(t, a, &h, closureOf(3, one))
		three := put(t, a, &h, arrayOf(two, 7, two))
		set(t, a, h, self, 0, self)
		set(t, a, h, self, 1, self)
		set(t, a, h, one, 0, three)
		lives(t, a, h, 3, self)
		for _, w := range []uint64{one, two, three} {
			lives(t, a, h, 8, w)
			lives(t, a, h, 11, w, self)
		}
		h, roots := collected(t, a, h, three, self)
		h, roots = collected(t, a, h, roots[1], roots[0])
		h, roots = collected(t, a, h, roots[0])
		first := word.Place((1 - space) * 40)
		if o, ok := object.Get(a, h, roots[0]); !ok || roots[0] != first || o.Tag != 1 || !slices.Equal(o.Fields, []uint64{first, first}) {
			t.Errorf("what points to itself is now %v", o)
		}
	}
}

func TestObjectsOfAllKindsAndSizes(t *testing.T) {
	for space := range 2 {
		a, h := made(t, api.MaxHalf, space)
		leaf := put(t, a, &h, blockOf(api.MaxTag, slices.Repeat([]uint64{word.Int(-1)}, api.MaxSize)...))
		roots := []uint64{leaf}
		for _, o := range []api.Object{
			blockOf(0, leaf), blockOf(api.Moved, 1), arrayOf(), arrayOf(slices.Repeat([]uint64{leaf, 9}, api.MaxArray/2)...),
			closureOf(0), closureOf(api.MaxFuncs-1, slices.Repeat([]uint64{leaf}, api.MaxFree)...), strOf(strings.Repeat("~", api.MaxBytes)),
		} {
			put(t, a, &h, strOf("left behind"))
			roots = append(roots, put(t, a, &h, o))
		}
		for n := range 18 {
			put(t, a, &h, arrayOf())
			roots = append(roots, put(t, a, &h, strOf(strings.Repeat("\xff", n))), put(t, a, &h, strOf(strings.Repeat("\x00", n))))
		}
		before := held(t, a, h)
		slices.Reverse(roots)
		n, r := collected(t, a, h, roots...)
		alike(t, before, held(t, a, n), roots, r)
	}
}

func TestWordsOfTextsAreNoFields(t *testing.T) {
	for space := range 2 {
		a, h := made(t, 20, space)
		far := put(t, a, &h, blockOf(1, 1))
		spell := func(w uint64) string {
			text := make([]byte, 8)
			for i := range text {
				text[i] = byte(w >> (8 * i))
			}
			return string(text)
		}
		place := put(t, a, &h, strOf(spell(far)))
		head := put(t, a, &h, strOf(spell(api.Moved)+spell(far)+"\x05"))
		lives(t, a, h, 6, place, head)
		h, roots := collected(t, a, h, head, place)
		for i, want := range []string{spell(api.Moved) + spell(far) + "\x05", spell(far)} {
			if o, _ := object.Get(a, h, roots[i]); o.Text != want {
				t.Errorf("the text %q is now %q", want, o.Text)
			}
		}
	}
}

func TestNumbersThatLookLikeHeadsOfTheMoved(t *testing.T) {
	for space := range 2 {
		a, h := made(t, 12, space)
		w := put(t, a, &h, blockOf(api.Moved, api.Moved, api.Moved|24<<8, api.Moved|3<<8|1<<32))
		h, roots := collected(t, a, h, w)
		if o, _ := object.Get(a, h, roots[0]); !slices.Equal(o.Fields, []uint64{api.Moved, api.Moved | 24<<8, api.Moved | 3<<8 | 1<<32}) {
			t.Errorf("%v with the object %v", h, o)
		}
	}
}

// tree puts a block of tag 1 over two of tags 2 and 3, each over two of tags 4 to 7, which have a number each.
func tree(t *testing.T, a *arena.Arena, h *api.Heap) uint64 {
	t.Helper()
	var row []uint64
	for tag := 7; tag > 0; tag-- {
		if tag > 3 {
			row = append(row, put(t, a, h, blockOf(tag, word.Int(int64(tag)))))
			continue
		}
		row = append(row[2:], put(t, a, h, blockOf(tag, row[1], row[0])))
	}
	return row[0]
}

// tags are those of all objects, by places.
func tags(t *testing.T, a *arena.Arena, h api.Heap) []int {
	t.Helper()
	places, _ := object.All(a, h)
	var all []int
	for _, at := range places {
		o, _ := object.Get(a, h, word.Place(at))
		all = append(all, o.Tag)
	}
	return all
}

func TestOrder(t *testing.T) {
	a, h := made(t, 40, 0)
	top := tree(t, a, &h)
	if was := tags(t, a, h); !slices.Equal(was, []int{7, 6, 5, 4, 3, 2, 1}) {
		t.Fatalf("ahead of all the tags are %d", was)
	}
	h, r := collected(t, a, h, top) // what is nearer comes first, not what is deeper
	if got := tags(t, a, h); !slices.Equal(got, []int{1, 2, 3, 4, 5, 6, 7}) {
		t.Errorf("from the first one on the tags are %d", got)
	}
	o, _ := object.Get(a, h, r[0])
	h, r = collected(t, a, h, o.Fields[1], r[0]) // all roots come ahead of all fields
	if got := tags(t, a, h); !slices.Equal(got, []int{3, 1, 6, 7, 2, 4, 5}) {
		t.Errorf("from the third one and the first one on the tags are %d", got)
	}
	h, _ = collected(t, a, h, r[0]) // what leads there is no more
	if got := tags(t, a, h); !slices.Equal(got, []int{3, 6, 7}) {
		t.Errorf("from the third one on the tags are %d", got)
	}
}

func TestTheWordsOfACollection(t *testing.T) {
	a, h := made(t, 8, 1)
	s := put(t, a, &h, strOf("hi"))
	put(t, a, &h, arrayOf())
	b := put(t, a, &h, blockOf(4, s, word.Int(7)))
	n, r, ok := gc.Collect(a, h, []uint64{word.Int(9), b, s, b})
	if want := (api.Heap{Base: ahead, Half: 8, Top: 5}); !ok || n != want {
		t.Errorf("Collect = %v, %t, want %v", n, ok, want)
	}
	if want := []uint64{19, 0, 6, 0}; !slices.Equal(r, want) {
		t.Errorf("the roots are %#x, want %#x", r, want)
	}
	want := []uint64{1 | 4<<8 | 2<<32, 6, 15, 2 | 2<<32, 'h' | 'i'<<8, 15: 0}
	if got, _ := a.Words(ahead); !slices.Equal(got, want) {
		t.Errorf("the words are %#x, want %#x", got, want)
	}
}

func TestFullSemispaces(t *testing.T) {
	for space := range 2 {
		for _, half := range []int{api.MinHalf, api.MinHalf + 1, api.MaxHalf} {
			a, h := made(t, half, space)
			var last uint64 = 1
			for h.Half-h.Top > 3 {
				last = put(t, a, &h, blockOf(1, last))
			}
			last = put(t, a, &h, arrayOf(slices.Repeat([]uint64{last}, h.Half-h.Top-1)...))
			lives(t, a, h, half, last)
			n, r := collected(t, a, h, last) // a row as long as the semispace
			if n.Top != half {
				t.Errorf("%v is not full", n)
			}
			n, _ = makesRoom(t, a, n, 1, false, r...)
			stays(t, a, n, 0)
			makesRoom(t, a, n, half, true)
		}
	}
}

func TestAsManyObjectsAsThereAreWords(t *testing.T) {
	a, h := made(t, api.MaxArray, 0)
	var roots []uint64
	for range h.Half {
		roots = append(roots, put(t, a, &h, arrayOf()))
	}
	lives(t, a, h, h.Half, roots...)
	h, _ = collected(t, a, h, roots...)
	slices.Reverse(roots)
	for i, w := range roots {
		roots[i] = w + 2*api.MaxArray
	}
	collected(t, a, h, roots...)
}

// twin is a heap of two objects, the second of which points to the first, both of them roots.
func twin(t *testing.T, half, space int) (*arena.Arena, api.Heap, []uint64) {
	t.Helper()
	a, h := made(t, half, space)
	one := put(t, a, &h, strOf("one"))
	return a, h, []uint64{one, put(t, a, &h, blockOf(1, one))}
}

func TestHeapsThatMayNotBe(t *testing.T) {
	for space := range 2 {
		a, h, roots := twin(t, 10, space)
		for _, change := range []func(*api.Heap){
			func(h *api.Heap) { *h = api.Heap{} },
			func(h *api.Heap) { h.Base = 0 },
			func(h *api.Heap) { h.Base++ },
			func(h *api.Heap) { h.Base = -1 },
			func(h *api.Heap) { h.Base = math.MaxInt },
			func(h *api.Heap) { h.Base = math.MinInt },
			func(h *api.Heap) { h.Half-- },
			func(h *api.Heap) { h.Half++ },
			func(h *api.Heap) { h.Half = api.MaxHalf + 1 },
			func(h *api.Heap) { h.Half = math.MaxInt },
			func(h *api.Heap) { h.Half = math.MinInt },
			func(h *api.Heap) { h.Space = 2 },
			func(h *api.Heap) { h.Space = -1 },
			func(h *api.Heap) { h.Top-- },
			func(h *api.Heap) { h.Top++ },
			func(h *api.Heap) { h.Top = -1 },
			func(h *api.Heap) { h.Top = 11 },
			func(h *api.Heap) { h.Top = math.MaxInt },
			func(h *api.Heap) { h.Top = math.MinInt },
		} {
			other := h
			change(&other)
			noCollection(t, a, other)
			noCollection(t, a, other, roots...)
			noCollection(t, a, other, word.Int(1))
		}
		collected(t, a, h, roots...)
	}
}

func TestWordsThatMakeAHeapOneThatMayNotBe(t *testing.T) {
	for space := range 2 {
		for _, c := range []struct {
			at int
			w  uint64
		}{
			{0, 0}, {0, api.Moved}, {0, api.Moved | 13<<8}, {0, api.Str | 9<<32}, {0, api.Str | 1<<8 | 3<<32}, {0, 7 | 1<<32},
			{1, 'o' | 'n'<<8 | 'e'<<16 | 1<<24}, {2, api.Block}, {2, api.Block | 256<<8 | 1<<32}, {2, api.Closure | api.MaxFuncs<<8 | 1<<32},
			{3, word.Place(space*10 + 1)}, {3, word.Place(space*10 + 4)}, {3, word.Place((1 - space) * 10)}, {3, 1 << 33},
		} {
			a, h, roots := twin(t, 10, space)
			poke(t, a, h, space*10+c.at, c.w)
			noCollection(t, a, h) // what may not be need not be live
			noCollection(t, a, h, roots...)
			noCollection(t, a, h, roots[0])
			noCollection(t, a, h, roots[1])
		}
	}
}

func TestRootsThatPointToNoObject(t *testing.T) {
	for space := range 2 {
		a, h, roots := twin(t, 10, space)
		heads := []int{space * 10, space*10 + 2}
		var wrong []uint64
		for place := range 30 {
			if !slices.Contains(heads, place) {
				wrong = append(wrong, word.Place(place))
			}
		}
		wrong = append(wrong, 1<<33-2, 1<<33, 1<<33+roots[0], 1<<33+roots[1], 1<<63, 1<<63+roots[0], 1<<63+roots[1], math.MaxUint64-1)
		for _, w := range wrong {
			noCollection(t, a, h, w)
			noCollection(t, a, h, roots[0], w)
			noCollection(t, a, h, w, roots[1])
			noCollection(t, a, h, word.Int(1), roots[0], roots[1], w)
		}
		n, now := collected(t, a, h, roots...)
		for _, w := range roots { // they are of the semispace that was left
			noCollection(t, a, n, w)
		}
		collected(t, a, n, now...)
	}
}

func TestNilArena(t *testing.T) {
	for _, h := range []api.Heap{{}, {Half: 8}, {Half: 8, Space: 1}, {Half: 8, Top: 2}, {Base: 3, Half: api.MaxHalf}, {Base: -1, Half: -8, Space: -1, Top: -1}} {
		noCollection(t, nil, h)
		noCollection(t, nil, h, word.Int(1))
		noCollection(t, nil, h, word.Place(0))
	}
}

// P4.2

func TestRoomWithoutACollection(t *testing.T) {
	for space := range 2 {
		a, h, roots := twin(t, 10, space)
		for n := range 7 {
			stays(t, a, h, n)
			stays(t, a, h, n, roots...)
			stays(t, a, h, n, roots[1], word.Int(-1), roots[1], roots[0])
		}
	}
	a, h := made(t, api.MinHalf, 0)
	stays(t, a, h, 0)
	stays(t, a, h, api.MinHalf)
}

func TestRoomBehindACollection(t *testing.T) {
	for space := range 2 {
		for _, c := range []struct {
			n    int
			ok   bool
			live int // of the two objects the first so many are live
		}{
			{7, true, 1}, {8, true, 1}, {9, false, 1}, {10, false, 1}, {11, false, 1}, {math.MaxInt, false, 1},
			{7, false, 2}, {8, false, 2}, {math.MaxInt, false, 2},
			{7, true, 0}, {10, true, 0}, {11, false, 0}, {math.MaxInt - 1, false, 0},
		} {
			a, h, roots := twin(t, 10, space)
			h, roots = makesRoom(t, a, h, c.n, c.ok, roots[:c.live]...)
			if want := []int{0, 2, 4}[c.live]; h.Top != want || h.Space != 1-space {
				t.Errorf("behind Room of %d: %v, want %d words", c.n, h, want)
			}
			stays(t, a, h, 10-h.Top, roots...)
			h, _ = makesRoom(t, a, h, 11-h.Top, false, roots...)
			if h.Space != space {
				t.Errorf("behind Room of one word more: %v", h)
			}
		}
	}
}

func TestRoomOfANumberBelow0(t *testing.T) {
	for space := range 2 {
		a, h, roots := twin(t, 10, space)
		empty := api.Heap{Base: h.Base, Half: h.Half, Space: h.Space}
		for _, n := range []int{-1, -2, -6, -10, math.MinInt + 1, math.MinInt} {
			noRoom(t, a, h, n)
			noRoom(t, a, h, n, roots...)
			noRoom(t, a, h, n, word.Int(1))
			noRoom(t, a, empty, n)
			noRoom(t, a, h, n, word.Place(1)) // either would do
		}
		stays(t, a, h, 0, roots...)
	}
}

func TestRoomIsTaken(t *testing.T) {
	a, h := made(t, 12, 0)
	var list uint64 = 1
	for i := range 50 { // three words each: the list is dropped when it takes too many
		n, r, ok := gc.Room(a, h, []uint64{list}, 3)
		if h, list = n, r[0]; !ok {
			list = 1
			h, _ = makesRoom(t, a, h, 12, true)
		}
		list = put(t, a, &h, blockOf(1, word.Int(int64(i)), list))
	}
	o, _ := object.Get(a, h, list)
	if o.Fields[0] != word.Int(49) {
		t.Errorf("the last one is %v", o)
	}
	lives(t, a, h, 6, list)
}

// P4.3

func TestWhatRootsLeadToStays(t *testing.T) {
	d := dice(1)
	for i := range 80 {
		a, h := made(t, api.MinHalf+2*i, i%2)
		var places []uint64
		for range 5 {
			places = fill(t, &d, a, &h, places)
			var roots []uint64
			for range d.under(6) {
				roots = append(roots, d.word(places))
			}
			before := held(t, a, h)
			n, r := collected(t, a, h, roots...)
			now := held(t, a, n)
			alike(t, before, now, roots, r)
			h, places = n, nil
			at, _ := object.All(a, h)
			for _, p := range at {
				places = append(places, word.Place(p))
			}
			lives(t, a, h, h.Top, r...) // all that was laid is live
		}
	}
}

func TestWhereTheRegionLies(t *testing.T) {
	a, _ := arena.New(200)
	var all [][]uint64
	for range 3 {
		base, _ := a.Cut(40)
		h := api.Heap{Base: base, Half: 20}
		s := put(t, a, &h, strOf("pepper"))
		put(t, a, &h, arrayOf(s, s))
		w := put(t, a, &h, blockOf(3, s, s))
		n, roots, ok := gc.Collect(a, h, []uint64{w})
		if want := (api.Heap{Base: base, Half: 20, Space: 1, Top: 5}); !ok || n != want {
			t.Errorf("Collect = %v, %t, want %v", n, ok, want)
		}
		l, _ := a.Words(base)
		all = append(all, append(l, roots...))
	}
	if !slices.Equal(all[0], all[1]) || !slices.Equal(all[0], all[2]) {
		t.Errorf("equal heaps at other bases: %#x", all)
	}
}

// Rule 2

func TestArgumentsAreNotChangedNorKept(t *testing.T) {
	a, h, places := twin(t, 10, 0)
	row := []uint64{70, places[1], places[0], 72, 74}
	was := slices.Clone(row)
	gc.Live(a, h, row[1:3])
	h1, r1, ok1 := gc.Room(a, h, row[1:3], 6)
	h2, r2, ok2 := gc.Collect(a, h1, row[1:3])
	row[1], row[2] = 1, 1
	if !ok1 || !ok2 || !slices.Equal(r1, was[1:3]) || !slices.Equal(r2, []uint64{20, 24}) {
		t.Errorf("the roots are %#x, then %#x", r1, r2)
	}
	copy(row[1:], r2)
	h3, r3, ok3 := gc.Room(a, h2, row[1:3], 7)
	_, _, bad := gc.Room(a, h3, row[1:4], 7)
	if ok3 || bad || !slices.Equal(r3, []uint64{0, 4}) || !slices.Equal(row, []uint64{70, 20, 24, 72, 74}) {
		t.Errorf("the roots are %#x, those that were handed in stand in %d", r3, row)
	}
}

func TestAnswersAreNewMemory(t *testing.T) {
	a, h, roots := twin(t, 10, 0)
	given := append(make([]uint64, 0, 8), roots...)
	_, one, _ := gc.Room(a, h, given, 0)
	_, other, _ := gc.Room(a, h, given, 0)
	one[0] = 99
	_ = append(one, 77, 77)
	if !slices.Equal(given, roots) || !slices.Equal(other, roots) || slices.Contains(given[:8], 77) {
		t.Errorf("one answer changed the others: %#x, %#x", given[:8], other)
	}
	n, r, _ := gc.Collect(a, h, given)
	r[0] = 99
	_ = append(r, 77, 77)
	if !slices.Equal(given, roots) || slices.Contains(given[:8], 77) {
		t.Errorf("an answer changed the argument: %#x", given[:8])
	}
	collected(t, a, n, word.Place(10))
}
