package object

import (
	"slices"

	"stockpot/api"
	"stockpot/arena"
	"stockpot/word"
)

// view is what a heap that may be looked like when it was asked: the words from its semispace's first one up to its Top, and where among them objects' heads stand.
// The zero view has no object.
type view struct {
	first int // the place of words[0]
	words []uint64
	heads []bool // of each word, whether it is a head
}

// look reads the heap; false, if it may not be.
func look(a *arena.Arena, h api.Heap) (view, bool) {
	if !lies(a, h) {
		return view{}, false
	}
	v := view{h.Space * h.Half, make([]uint64, h.Top), make([]bool, h.Top)}
	for i := range v.words {
		v.words[i], _ = a.Get(h.Base, v.first+i)
	}
	for i := 0; i < len(v.words); {
		n, ok := whole(v.words[i:])
		if !ok {
			return view{}, false
		}
		v.heads[i] = true
		i += n
	}
	// A field may point to an object behind its own: fields are asked when all heads are known.
	for i, is := range v.heads {
		if is && !v.mayHold(v.fields(i)) {
			return view{}, false
		}
	}
	return v, true
}

// lies says whether the heap's numbers are such as they may be, and its region has just the words of two semispaces.
func lies(a *arena.Arena, h api.Heap) bool {
	if h.Half < api.MinHalf || h.Half > api.MaxHalf || h.Space < 0 || h.Space > 1 || h.Top < 0 || h.Top > h.Half {
		return false
	}
	_, last := a.Get(h.Base, 2*h.Half-1)
	_, more := a.Get(h.Base, 2*h.Half)
	return last && !more
}

// whole is how many words the object takes that stands first in rest; false, if none does that may be, its fields aside.
func whole(rest []uint64) (int, bool) {
	h := apart(rest[0])
	k := kindOf(h.kind)
	if k == nil || !k.may(h.tag, h.size) {
		return 0, false
	}
	n := 1 + k.long(h.size)
	if n > len(rest) || !k.sound(rest[1:n], h.size) {
		return 0, false
	}
	return n, true
}

// at is the head that is word i, its kind, and the words behind it.
func (v view) at(i int) (head, kind, []uint64) {
	h := apart(v.words[i])
	k := kindOf(h.kind)
	return h, k, v.words[i+1 : i+1+k.long(h.size)]
}

// fields are those of the object whose head is word i.
func (v view) fields(i int) []uint64 {
	_, k, body := v.at(i)
	return k.fields(body)
}

// object is that whose head is word i.
func (v view) object(i int) api.Object {
	h, k, body := v.at(i)
	return api.Object{Kind: h.kind, Tag: h.tag, Fields: slices.Clone(k.fields(body)), Text: k.text(body, h.size)}
}

// find is which word is the head of the object to which w points; false, if it points to none.
func (v view) find(w uint64) (int, bool) {
	place, ok := word.At(w)
	i := place - v.first
	if !ok || i < 0 || i >= len(v.heads) || !v.heads[i] {
		return 0, false
	}
	return i, true
}

// mayHold says whether each of the words may be a field: a number's, or one of a place with an object.
func (v view) mayHold(words []uint64) bool {
	for _, w := range words {
		if _, ok := v.find(w); !ok && !word.IsInt(w) {
			return false
		}
	}
	return true
}

// places are those of all heads, rising.
func (v view) places() []int {
	var all []int
	for i, is := range v.heads {
		if is {
			all = append(all, v.first+i)
		}
	}
	return all
}
