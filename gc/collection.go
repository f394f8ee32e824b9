package gc

import (
	"stockpot/api"
	"stockpot/arena"
	"stockpot/word"
)

// Where in a head the tag and the size begin, and how many bytes of a Str lie in a word.
const (
	tagAt  = 8
	sizeAt = 32
	inWord = 8
)

// collection moves objects within a copy of their region's words, so that who only wants to know what is live need not write it back.
type collection struct {
	words []uint64 // of both semispaces
	roots []uint64
	first int // the place where the new semispace begins
	next  int // the place behind the objects that are laid there
}

// collect is a collection that is over. The heap and the roots must be such as may be.
func collect(a *arena.Arena, h api.Heap, roots []uint64) *collection {
	words, _ := a.Words(h.Base)
	from, to := h.Space*h.Half, (1-h.Space)*h.Half
	clear(words[to : to+h.Half])
	c := &collection{words: words, roots: copied(roots), first: to, next: to}
	c.moveAll(c.roots)
	// Each object that is laid brings those it points to behind it: the row ends when all are there.
	for at := to; at < c.next; {
		long, fields := behind(c.words[at])
		c.moveAll(c.words[at+1 : at+1+fields])
		at += 1 + long
	}
	clear(words[from : from+h.Half])
	return c
}

// laid is how many words the new semispace's objects take.
func (c *collection) laid() int { return c.next - c.first }

// moveAll makes each of the words what it is behind the move of the object to which it points.
func (c *collection) moveAll(words []uint64) {
	for i, w := range words {
		words[i] = c.move(w)
	}
}

// move is the word of the place to which the object goes, or went, to which w points; a number's word stays.
func (c *collection) move(w uint64) uint64 {
	from, ok := word.At(w)
	if !ok {
		return w
	}
	if to, gone := went(c.words[from]); gone {
		return word.Place(to)
	}
	to := c.next
	long, _ := behind(c.words[from])
	c.next += copy(c.words[to:], c.words[from:from+1+long])
	c.words[from] = moved(to)
	return word.Place(to)
}

// moved is the head that an object leaves behind which went to that place.
func moved(to int) uint64 { return api.Moved | uint64(to)<<tagAt }

// went is the place to which the object went that left that head behind; false, if it is an object's that is still there.
func went(head uint64) (int, bool) {
	if kind(head) != api.Moved {
		return 0, false
	}
	return int(head >> tagAt), true
}

// behind is how many words stand behind the head of an object, and how many of them, from the first one on, are fields.
func behind(head uint64) (long, fields int) {
	size := int(head >> sizeAt)
	if kind(head) == api.Str {
		return (size + inWord - 1) / inWord, 0
	}
	return size, size
}

// kind is the kind that a head tells.
func kind(head uint64) int { return int(head % (1 << tagAt)) }
