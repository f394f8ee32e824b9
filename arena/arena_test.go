package arena_test

import (
	"math"
	"slices"
	"testing"

	"stockpot/api"
	"stockpot/arena"
)

// far are numbers that are neither a place nor a size in any arena.
var far = []int{-1, -2, -20000, api.MaxArena, api.MaxArena + 1, 1 << 31, 1 << 32, 1<<32 + 1, 1 << 62, math.MaxInt - 1, math.MaxInt, math.MinInt, math.MinInt + 1}

// made is an arena of n words, cut into regions of those sizes, one behind the other.
func made(t *testing.T, n int, sizes ...int) *arena.Arena {
	t.Helper()
	a, ok := arena.New(n)
	if !ok || a == nil {
		t.Fatalf("New(%d): none", n)
	}
	at := 0
	for _, size := range sizes {
		cut(t, a, size, at)
		at += size
	}
	return a
}

// cut expects a region of n words at that place.
func cut(t *testing.T, a *arena.Arena, n, want int) {
	t.Helper()
	if at, ok := a.Cut(n); !ok || at != want {
		t.Fatalf("Cut(%d) = %d, %t, want %d", n, at, ok, want)
	}
}

// noCut expects that there is no room for n words.
func noCut(t *testing.T, a *arena.Arena, n int) {
	t.Helper()
	if at, ok := a.Cut(n); ok || at != 0 {
		t.Errorf("Cut(%d) = %d, %t, want none", n, at, ok)
	}
}

// fill sets the words of the region at base to first, first + 1 and so on.
func fill(t *testing.T, a *arena.Arena, base, n int, first uint64) {
	t.Helper()
	for i := range n {
		if !a.Set(base, i, first+uint64(i)) {
			t.Fatalf("Set(%d, %d): false", base, i)
		}
	}
}

// holds expects that the region at base has just those words, asked one by one and all at once.
func holds(t *testing.T, a *arena.Arena, base int, want ...uint64) {
	t.Helper()
	if l, ok := a.Words(base); !ok || !slices.Equal(l, want) {
		t.Errorf("Words(%d) = %d, %t, want %d", base, l, ok, want)
	}
	for i, w := range want {
		if got, ok := a.Get(base, i); !ok || got != w {
			t.Errorf("Get(%d, %d) = %d, %t, want %d", base, i, got, ok, w)
		}
	}
}

// regions expects just those regions.
func regions(t *testing.T, a *arena.Arena, want ...[2]int) {
	t.Helper()
	if got := a.Regions(); !slices.Equal(got, want) {
		t.Errorf("Regions() = %d, want %d", got, want)
	}
}

// none expects that no region begins at base.
func none(t *testing.T, a *arena.Arena, base int) {
	t.Helper()
	if w, ok := a.Get(base, 0); ok || w != 0 {
		t.Errorf("Get(%d, 0) = %d, %t, want none", base, w, ok)
	}
	if l, ok := a.Words(base); ok || len(l) != 0 {
		t.Errorf("Words(%d) = %d, %t, want none", base, l, ok)
	}
	if a.Set(base, 0, 99) {
		t.Errorf("Set(%d, 0): true", base)
	}
	if a.Free(base) {
		t.Errorf("Free(%d): true", base)
	}
}

// P2.1

func TestNewHasWordsAndNoRegion(t *testing.T) {
	for _, n := range []int{1, 2, 7, 8, 9, 1000, api.MaxArena - 1, api.MaxArena} {
		a := made(t, n)
		if a.Len() != n {
			t.Errorf("Len() = %d, want %d", a.Len(), n)
		}
		regions(t, a)
		for _, base := range []int{0, 1, n - 1, n, n + 1} {
			none(t, a, base)
		}
		noCut(t, a, n+1)
		cut(t, a, n, 0)
		holds(t, a, 0, make([]uint64, n)...)
		regions(t, a, [2]int{0, n})
	}
}

func TestNewOfWhatIsNoSize(t *testing.T) {
	for _, n := range append([]int{0}, far...) {
		if n == api.MaxArena {
			continue
		}
		if a, ok := arena.New(n); ok || a != nil {
			t.Errorf("New(%d) = %v, %t, want none", n, a, ok)
		}
	}
}

func TestCutTakesTheLeastPlace(t *testing.T) {
	a := made(t, 10)
	cut(t, a, 4, 0)
	cut(t, a, 4, 4)
	noCut(t, a, 4)
	noCut(t, a, 3)
	cut(t, a, 2, 8)
	noCut(t, a, 1)
	regions(t, a, [2]int{0, 4}, [2]int{4, 4}, [2]int{8, 2})
	if a.Len() != 10 {
		t.Errorf("Len() = %d, want 10", a.Len())
	}
}

func TestCutOfWhatIsNoSize(t *testing.T) {
	for _, a := range []*arena.Arena{made(t, 10), made(t, 10, 4), made(t, 10, 4, 6)} {
		before := a.Regions()
		for _, n := range append([]int{0, 11}, far...) {
			noCut(t, a, n)
		}
		regions(t, a, before...)
	}
}

func TestCutWithoutRoomChangesNothing(t *testing.T) {
	a := made(t, 12, 3, 3, 3, 3)
	for base := 0; base < 12; base += 3 {
		fill(t, a, base, 3, uint64(base)+100)
	}
	if !a.Free(0) || !a.Free(6) {
		t.Fatal("Free: false")
	}
	for n := 4; n < 14; n++ { // six words are in no region, but only three and three
		noCut(t, a, n)
	}
	regions(t, a, [2]int{3, 3}, [2]int{9, 3})
	holds(t, a, 3, 103, 104, 105)
	holds(t, a, 9, 109, 110, 111)
	cut(t, a, 3, 0)
	cut(t, a, 3, 6)
}

func TestCutPassesGapsThatAreTooSmall(t *testing.T) {
	a := made(t, 20, 2, 1, 3, 1, 4, 1)
	for _, base := range []int{0, 3, 7} { // gaps of 2, 3, 4 words, and 8 behind all regions
		if !a.Free(base) {
			t.Fatalf("Free(%d): false", base)
		}
	}
	cut(t, a, 5, 12)
	cut(t, a, 4, 7)
	cut(t, a, 3, 3)
	cut(t, a, 3, 17)
	cut(t, a, 1, 0)
	cut(t, a, 1, 1)
	noCut(t, a, 1)
	regions(t, a, [2]int{0, 1}, [2]int{1, 1}, [2]int{2, 1}, [2]int{3, 3}, [2]int{6, 1}, [2]int{7, 4}, [2]int{11, 1}, [2]int{12, 5}, [2]int{17, 3})
}

func TestFreedNeighboursAreOneGap(t *testing.T) {
	for _, order := range [][]int{{2, 4, 6}, {2, 6, 4}, {4, 2, 6}, {4, 6, 2}, {6, 2, 4}, {6, 4, 2}} {
		a := made(t, 10, 2, 2, 2, 2, 2)
		fill(t, a, 0, 2, 10)
		fill(t, a, 8, 2, 20)
		for _, base := range order {
			if !a.Free(base) {
				t.Errorf("Free(%d): false", base)
			}
		}
		regions(t, a, [2]int{0, 2}, [2]int{8, 2})
		noCut(t, a, 7)
		cut(t, a, 6, 2)
		holds(t, a, 0, 10, 11)
		holds(t, a, 2, 0, 0, 0, 0, 0, 0)
		holds(t, a, 8, 20, 21)
	}
}

func TestFreedRegionIsNoneTillCutAgain(t *testing.T) {
	a := made(t, 12, 4, 4, 4)
	fill(t, a, 0, 4, 1)
	fill(t, a, 4, 4, 5)
	fill(t, a, 8, 4, 9)
	if !a.Free(4) {
		t.Fatal("Free(4): false")
	}
	none(t, a, 4)
	regions(t, a, [2]int{0, 4}, [2]int{8, 4})
	cut(t, a, 2, 4)
	holds(t, a, 4, 0, 0)
	none(t, a, 6)
	cut(t, a, 1, 6)
	holds(t, a, 6, 0)
	none(t, a, 7)
	holds(t, a, 0, 1, 2, 3, 4)
	holds(t, a, 8, 9, 10, 11, 12)
	regions(t, a, [2]int{0, 4}, [2]int{4, 2}, [2]int{6, 1}, [2]int{8, 4})
}

func TestCutAgainIsAllNought(t *testing.T) {
	a := made(t, 8)
	for n := 8; n >= 1; n-- {
		cut(t, a, n, 0)
		holds(t, a, 0, make([]uint64, n)...)
		fill(t, a, 0, n, math.MaxUint64-8)
		if !a.Free(0) {
			t.Fatal("Free(0): false")
		}
	}
	cut(t, a, 8, 0)
	holds(t, a, 0, make([]uint64, 8)...)
}

func TestFreeOfWhatIsNoRegion(t *testing.T) {
	a := made(t, 12, 4, 5)
	for _, base := range append([]int{1, 2, 3, 5, 6, 7, 8, 9, 10, 11, 12, 13}, far...) {
		if a.Free(base) {
			t.Errorf("Free(%d): true", base)
		}
	}
	regions(t, a, [2]int{0, 4}, [2]int{4, 5})
	if !a.Free(4) || a.Free(4) || !a.Free(0) || a.Free(0) {
		t.Error("a region is freed once")
	}
	regions(t, a)
	cut(t, a, 12, 0)
}

func TestAllWordsAsRegionsOfOne(t *testing.T) {
	a := made(t, api.MaxArena)
	for at := range api.MaxArena {
		cut(t, a, 1, at)
		if !a.Set(at, 0, uint64(at)+1) {
			t.Fatalf("Set(%d, 0): false", at)
		}
	}
	noCut(t, a, 1)
	all := a.Regions()
	if len(all) != api.MaxArena {
		t.Fatalf("%d regions, want %d", len(all), api.MaxArena)
	}
	for at, r := range all {
		if r != [2]int{at, 1} {
			t.Fatalf("region %d is %d", at, r)
		}
		if w, ok := a.Get(at, 0); !ok || w != uint64(at)+1 {
			t.Fatalf("Get(%d, 0) = %d, %t", at, w, ok)
		}
	}
	if !a.Free(api.MaxArena - 1) {
		t.Error("Free of the last: false")
	}
	cut(t, a, 1, api.MaxArena-1)
	holds(t, a, api.MaxArena-1, 0)
}

// P2.2

func TestGetAndSetWithinTheRegion(t *testing.T) {
	a := made(t, 12, 4, 5)
	for at := -6; at < 14; at++ {
		if ok := a.Set(4, at, uint64(at+100)); ok != (at >= 0 && at < 5) {
			t.Errorf("Set(4, %d): %t", at, ok)
		}
	}
	holds(t, a, 0, 0, 0, 0, 0)
	holds(t, a, 4, 100, 101, 102, 103, 104)
	for at := -6; at < 14; at++ {
		w, ok := a.Get(4, at)
		if within := at >= 0 && at < 5; ok != within || within && w != uint64(at+100) || !within && w != 0 {
			t.Errorf("Get(4, %d) = %d, %t", at, w, ok)
		}
		if w, ok := a.Get(0, at); w != 0 || ok != (at >= 0 && at < 4) {
			t.Errorf("Get(0, %d) = %d, %t", at, w, ok)
		}
	}
}

func TestWordsKeepAll64Bits(t *testing.T) {
	a := made(t, 3, 3)
	for _, w := range []uint64{1, 0, 1 << 31, 1 << 32, 1<<53 + 1, 1 << 63, math.MaxUint64, 0x0123456789abcdef} {
		if !a.Set(0, 1, w) {
			t.Fatal("Set(0, 1): false")
		}
		holds(t, a, 0, 0, w, 0)
	}
}

func TestPlacesFarOutside(t *testing.T) {
	a := made(t, 12, 4, 5)
	fill(t, a, 0, 4, 1)
	fill(t, a, 4, 5, 5)
	for _, at := range far {
		for _, base := range []int{0, 4} {
			if w, ok := a.Get(base, at); ok || w != 0 {
				t.Errorf("Get(%d, %d) = %d, %t, want none", base, at, w, ok)
			}
			if a.Set(base, at, 99) {
				t.Errorf("Set(%d, %d): true", base, at)
			}
			// base and at together may wrap round to a place of a region
			if w, ok := a.Get(base-at, at); ok || w != 0 {
				t.Errorf("Get(%d, %d) = %d, %t, want none", base-at, at, w, ok)
			}
			if a.Set(base-at, at, 99) {
				t.Errorf("Set(%d, %d): true", base-at, at)
			}
		}
	}
	holds(t, a, 0, 1, 2, 3, 4)
	holds(t, a, 4, 5, 6, 7, 8, 9)
}

func TestBasesThatAreNone(t *testing.T) {
	a := made(t, 12, 4, 5)
	fill(t, a, 0, 4, 1)
	fill(t, a, 4, 5, 5)
	for _, base := range append([]int{1, 2, 3, 5, 6, 7, 8, 9, 10, 11, 12, 13}, far...) {
		none(t, a, base)
		for at := -12; at < 12; at++ {
			if w, ok := a.Get(base, at); ok || w != 0 {
				t.Errorf("Get(%d, %d) = %d, %t, want none", base, at, w, ok)
			}
			if a.Set(base, at, 99) {
				t.Errorf("Set(%d, %d): true", base, at)
			}
		}
	}
	regions(t, a, [2]int{0, 4}, [2]int{4, 5})
	holds(t, a, 0, 1, 2, 3, 4)
	holds(t, a, 4, 5, 6, 7, 8, 9)
}

func TestNil(t *testing.T) {
	var a *arena.Arena
	if a.Len() != 0 {
		t.Errorf("Len() = %d, want 0", a.Len())
	}
	regions(t, a)
	for _, n := range append([]int{0, 1, 2}, far...) {
		noCut(t, a, n)
		none(t, a, n)
		if w, ok := a.Get(0, n); ok || w != 0 {
			t.Errorf("Get(0, %d) = %d, %t, want none", n, w, ok)
		}
		if a.Set(0, n, 1) {
			t.Errorf("Set(0, %d): true", n)
		}
	}
}

func TestAnswersAreNewMemory(t *testing.T) {
	a := made(t, 12, 4, 3)
	fill(t, a, 0, 4, 1)
	fill(t, a, 4, 3, 5)
	one, _ := a.Words(0)
	other, _ := a.Words(0)
	for i := range one {
		one[i] = 70
	}
	_ = append(one, 71, 72, 73, 74, 75, 76, 77, 78)
	if !slices.Equal(other, []uint64{1, 2, 3, 4}) {
		t.Errorf("one answer changed another: %d", other)
	}
	rows := a.Regions()
	more := a.Regions()
	for i := range rows {
		rows[i] = [2]int{70, 71}
	}
	_ = append(rows, [2]int{72, 73})
	if !slices.Equal(more, [][2]int{{0, 4}, {4, 3}}) {
		t.Errorf("one answer changed another: %d", more)
	}
	regions(t, a, [2]int{0, 4}, [2]int{4, 3})
	holds(t, a, 0, 1, 2, 3, 4)
	holds(t, a, 4, 5, 6, 7)
	cut(t, a, 5, 7)
	holds(t, a, 7, 0, 0, 0, 0, 0)
}

func TestAnswersStayWhatTheyWere(t *testing.T) {
	a := made(t, 6, 2, 2)
	fill(t, a, 0, 2, 1)
	words, _ := a.Words(0)
	rows := a.Regions()
	fill(t, a, 0, 2, 50)
	if !a.Free(0) || !a.Free(2) {
		t.Fatal("Free: false")
	}
	cut(t, a, 6, 0)
	if !slices.Equal(words, []uint64{1, 2}) {
		t.Errorf("the words told are now %d", words)
	}
	if !slices.Equal(rows, [][2]int{{0, 2}, {2, 2}}) {
		t.Errorf("the regions told are now %d", rows)
	}
}

func TestArenasAreApart(t *testing.T) {
	a, b := made(t, 6, 3), made(t, 6, 2, 2)
	fill(t, a, 0, 3, 1)
	fill(t, b, 0, 2, 50)
	if !b.Free(2) {
		t.Fatal("Free(2): false")
	}
	regions(t, a, [2]int{0, 3})
	regions(t, b, [2]int{0, 2})
	holds(t, a, 0, 1, 2, 3)
	holds(t, b, 0, 50, 51)
}

// P2.3

func TestNoSetChangesAnotherRegion(t *testing.T) {
	a := made(t, 12, 4, 3, 5)
	want := map[int][]uint64{0: make([]uint64, 4), 4: make([]uint64, 3), 7: make([]uint64, 5)}
	next := uint64(1)
	for base := -14; base < 14; base++ {
		for at := -14; at < 14; at++ {
			region := want[base]
			within := at >= 0 && at < len(region)
			if a.Set(base, at, next) != within {
				t.Fatalf("Set(%d, %d): %t", base, at, !within)
			}
			if within {
				region[at] = next
			}
			next++
			for b, words := range want {
				holds(t, a, b, words...)
			}
		}
	}
}

// plain is an arena told most plainly: of each word its value, and where its region begins (-1: in none).
type plain struct {
	words  []uint64
	begins []int
}

func newPlain(n int) *plain {
	p := &plain{words: make([]uint64, n), begins: make([]int, n)}
	for i := range p.begins {
		p.begins[i] = -1
	}
	return p
}

func (p *plain) cut(n int) (int, bool) {
	for at := 0; n > 0 && at+n <= len(p.words); at++ {
		if slices.Max(p.begins[at:at+n]) == -1 {
			for i := at; i < at+n; i++ {
				p.words[i], p.begins[i] = 0, at
			}
			return at, true
		}
	}
	return 0, false
}

func (p *plain) free(base int) bool {
	if len(p.region(base)) == 0 {
		return false
	}
	for i, b := range p.begins {
		if b == base {
			p.begins[i] = -1
		}
	}
	return true
}

func (p *plain) region(base int) []uint64 {
	n := 0
	for _, b := range p.begins {
		if b == base && base >= 0 {
			n++
		}
	}
	if n == 0 {
		return nil
	}
	return p.words[base : base+n]
}

// same expects that the arena and the plain one tell the same, wherever they are asked.
func same(t *testing.T, a *arena.Arena, p *plain) {
	t.Helper()
	var rows [][2]int
	for base := -1; base <= len(p.words); base++ {
		region := p.region(base)
		if len(region) > 0 {
			rows = append(rows, [2]int{base, len(region)})
		}
		if l, ok := a.Words(base); ok != (len(region) > 0) || !slices.Equal(l, region) {
			t.Fatalf("Words(%d) = %d, %t, want %d", base, l, ok, region)
		}
		for at := -1; at <= len(p.words); at++ {
			w, ok := a.Get(base, at)
			if within := at >= 0 && at < len(region); ok != within || within && w != region[at] || !within && w != 0 {
				t.Fatalf("Get(%d, %d) = %d, %t, the region is %d", base, at, w, ok, region)
			}
		}
	}
	if got := a.Regions(); !slices.Equal(got, rows) {
		t.Fatalf("Regions() = %d, want %d", got, rows)
	}
}

// small is how many words an arena of the short lives has; calls are Cut of 0 to small, then Free of 0 to small.
const (
	small = 4
	calls = 2*small + 2
)

// call does the same to both, and expects the same answer.
func call(t *testing.T, a *arena.Arena, p *plain, which int) {
	t.Helper()
	if which > small {
		base := which - small - 1
		if got, want := a.Free(base), p.free(base); got != want {
			t.Fatalf("Free(%d) = %t, want %t", base, got, want)
		}
		return
	}
	at, ok := a.Cut(which)
	if want, may := p.cut(which); at != want || ok != may {
		t.Fatalf("Cut(%d) = %d, %t, want %d, %t", which, at, ok, want, may)
	}
}

// mark sets all words of both to values of their own, so that words that are not made 0 are seen.
func mark(t *testing.T, a *arena.Arena, p *plain, first uint64) {
	t.Helper()
	for base := range small {
		for at := range p.region(base) {
			w := first + uint64(10*base+at)
			p.region(base)[at] = w
			if !a.Set(base, at, w) {
				t.Fatalf("Set(%d, %d): false", base, at)
			}
		}
	}
}

// TestAllShortLives leads a small arena through each row of calls: what it tells is what the plain arena tells.
func TestAllShortLives(t *testing.T) {
	lives := 1
	for long := 1; long <= 5; long++ {
		lives *= calls
		for life := range lives {
			a, p := made(t, small), newPlain(small)
			left := life
			for i := range long {
				call(t, a, p, left%calls)
				left /= calls
				if i == long-1 {
					same(t, a, p)
				}
				mark(t, a, p, uint64(1000*i+1))
			}
			same(t, a, p)
		}
	}
}
