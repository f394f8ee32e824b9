package word_test

import (
	"math"
	"math/big"
	"testing"

	"stockpot/word"
)

const (
	least = -1 << 62
	most  = 1<<62 - 1
	last  = 1<<32 - 1 // the last place
)

// bits are all words within a few of a power of two, or of the greatest word less one: each edge is among them.
func bits() []uint64 {
	var all []uint64
	for k := range 64 {
		for d := range uint64(7) {
			all = append(all, 1<<k+d-3, -(1<<k)+d-3)
		}
	}
	return append(all, 0, 1, 2, 3, 41, 42, 43, 1000003, 0x0123456789abcdef, 0xfedcba9876543210)
}

// wrapped is v's lowest 63 bits as a number, worked out without shifts of machine words.
func wrapped(v int64) int64 {
	whole := new(big.Int).Lsh(big.NewInt(1), 63)
	n := new(big.Int).Mod(big.NewInt(v), whole)
	if n.Cmp(big.NewInt(most)) > 0 {
		n.Sub(n, whole)
	}
	return n.Int64()
}

// P1.1

func TestIntAndValueOfSomeNumbers(t *testing.T) {
	for _, c := range []struct {
		v int64
		w uint64
	}{
		{0, 1}, {1, 3}, {2, 5}, {-1, math.MaxUint64}, {-2, math.MaxUint64 - 2}, {21, 43}, {1000, 2001},
		{most, 1<<63 - 1}, {least, 1<<63 + 1}, {most - 1, 1<<63 - 3}, {least + 1, 1<<63 + 3},
	} {
		if w := word.Int(c.v); w != c.w {
			t.Errorf("Int(%d) = %#x, want %#x", c.v, w, c.w)
		}
		if v := word.Value(c.w); v != c.v {
			t.Errorf("Value(%#x) = %d, want %d", c.w, v, c.v)
		}
		if v := word.Wrap(c.v); v != c.v {
			t.Errorf("Wrap(%d) = %d, want it unchanged", c.v, v)
		}
	}
}

func TestIntWrapsWhatIsNoNumberOf63Bits(t *testing.T) {
	for v, want := range map[int64]int64{
		most + 1: least, most + 2: least + 1, least - 1: most, least - 2: most - 1,
		math.MaxInt64: -1, math.MaxInt64 - 1: -2, math.MinInt64: 0, math.MinInt64 + 1: 1,
	} {
		if n := word.Wrap(v); n != want {
			t.Errorf("Wrap(%d) = %d, want %d", v, n, want)
		}
		if w := word.Int(v); w != word.Int(want) {
			t.Errorf("Int(%d) = %#x, want the word of %d", v, w, want)
		}
	}
}

func TestWrapKeepsTheLowest63Bits(t *testing.T) {
	for _, b := range bits() {
		v := int64(b)
		n := word.Wrap(v)
		if n != wrapped(v) || n < least || n > most || uint64(n)<<1 != b<<1 {
			t.Errorf("Wrap(%d) = %d, want %d", v, n, wrapped(v))
		}
		if again := word.Wrap(n); again != n {
			t.Errorf("Wrap(%d) = %d, want it unchanged", n, again)
		}
		if w := word.Int(v); w != uint64(n)*2+1 || word.Value(w) != n {
			t.Errorf("Int(%d) = %#x of number %d", v, w, word.Value(w))
		}
	}
}

func TestIsIntIsOdd(t *testing.T) {
	for _, w := range bits() {
		if word.IsInt(w) != (w%2 == 1) {
			t.Errorf("IsInt(%#x) = %t", w, word.IsInt(w))
		}
	}
}

func TestValueOfNoNumberIsNought(t *testing.T) {
	for _, b := range bits() {
		if w := b &^ 1; word.Value(w) != 0 {
			t.Errorf("Value(%#x) = %d, want 0", w, word.Value(w))
		}
	}
}

// P1.2

func TestPlacesComeBack(t *testing.T) {
	for _, at := range []int{0, 1, 2, 3, 7, 4000, 1 << 16, 1<<31 - 1, 1 << 31, last - 1, last} {
		w := word.Place(at)
		if w != 2*uint64(at) {
			t.Errorf("Place(%d) = %#x, want twice it", at, w)
		}
		if back, ok := word.At(w); !ok || back != at {
			t.Errorf("At(Place(%d)) = %d, %t", at, back, ok)
		}
	}
}

func TestPlaceOfNoneIsTheWordOfNought(t *testing.T) {
	for _, at := range []int{-1, -2, -last, -last - 1, last + 1, last + 2, 1 << 33, 1 << 62, 1<<62 + 1, math.MaxInt, math.MinInt, math.MinInt + 1} {
		if w := word.Place(at); w != 1 {
			t.Errorf("Place(%d) = %#x, want 1", at, w)
		}
	}
	for _, b := range bits() {
		at := int(b)
		want := uint64(1)
		if at >= 0 && at <= last {
			want = b + b
		}
		if w := word.Place(at); w != want {
			t.Errorf("Place(%d) = %#x, want %#x", at, w, want)
		}
	}
}

func TestAtOfWhatIsNoPlace(t *testing.T) {
	for _, w := range []uint64{1, 3, 2*last - 1, 2*last + 1, 2*last + 2, 2*last + 4, 1 << 34, 1 << 63, 1<<63 + 1, math.MaxUint64 - 1, math.MaxUint64} {
		if at, ok := word.At(w); ok || at != 0 {
			t.Errorf("At(%#x) = %d, %t, want none", w, at, ok)
		}
	}
	for _, w := range bits() {
		at, ok := word.At(w)
		if want := w%2 == 0 && w <= 2*last; ok != want {
			t.Errorf("At(%#x) = %d, %t, want %t", w, at, ok, want)
		} else if !ok && at != 0 || ok && uint64(at) != w/2 {
			t.Errorf("At(%#x) = %d, %t", w, at, ok)
		}
	}
}

// P1.3

func TestEachNumberHasOneWord(t *testing.T) {
	numbers := map[uint64]int64{}
	for _, b := range bits() {
		n := wrapped(int64(b))
		w := word.Int(n)
		if other, ok := numbers[w]; ok && other != n {
			t.Errorf("%d and %d have the word %#x", n, other, w)
		}
		numbers[w] = n
		if odd := b | 1; word.Int(word.Value(odd)) != odd {
			t.Errorf("the number %d of %#x has the word %#x too", word.Value(odd), odd, word.Int(word.Value(odd)))
		}
	}
}

func TestEachPlaceHasOneWord(t *testing.T) {
	places := map[uint64]int{}
	for _, b := range bits() {
		at := int(b & last)
		w := word.Place(at)
		if other, ok := places[w]; ok && other != at {
			t.Errorf("%d and %d have the word %#x", at, other, w)
		}
		places[w] = at
		if word.IsInt(w) {
			t.Errorf("the place %d has a number's word %#x", at, w)
		}
		if at, ok := word.At(b); ok && word.Place(at) != b {
			t.Errorf("the place %d of %#x has the word %#x too", at, b, word.Place(at))
		}
	}
}
