package data

import (
	"slices"

	"stockpot/api"
	"stockpot/arena"
	"stockpot/object"
	"stockpot/word"
)

// number is the Kind of a cell that is one.
const number = 0

// goodCell says whether the cell may be one of a message that may be.
func goodCell(c api.Cell) bool {
	switch c.Kind {
	case number:
		return c == numberOf(word.Wrap(c.N))
	case api.Block:
		return c.Tag >= 0 && c.Tag <= api.MaxTag && c.N >= 1 && c.N <= api.MaxSize && c.Text == ""
	case api.Str:
		return c == strOf(c.Text) && len(c.Text) <= api.MaxBytes
	}
	return false
}

func numberOf(n int64) api.Cell { return api.Cell{N: n} }

func blockOf(tag, wholes int) api.Cell {
	return api.Cell{Kind: api.Block, Tag: tag, N: int64(wholes)}
}

func strOf(text string) api.Cell { return api.Cell{Kind: api.Str, Text: text} }

// has is how many wholes follow the cell as what it has.
func has(c api.Cell) int {
	if c.Kind == api.Block {
		return int(c.N)
	}
	return 0
}

// cellOf is the cell of the value whose word is w, and the words of what it has; false, if it can't be sent.
func cellOf(a *arena.Arena, h api.Heap, w uint64) (api.Cell, []uint64, bool) {
	if word.IsInt(w) {
		return numberOf(word.Value(w)), nil, true
	}
	o, _ := object.Get(a, h, w)
	switch o.Kind {
	case api.Block:
		return blockOf(o.Tag, len(o.Fields)), o.Fields, true
	case api.Str:
		return strOf(o.Text), nil, true
	}
	return api.Cell{}, nil, false
}

// objectOf is the cell's object, with the number 0 in each field; of a number it is one that may not be.
func objectOf(c api.Cell) api.Object {
	return api.Object{Kind: c.Kind, Tag: c.Tag, Fields: slices.Repeat([]uint64{word.Int(0)}, has(c)), Text: c.Text}
}

// lay puts the cell's object behind all others, and tells the heap with it, and its place's word: of a number the heap as it is, and the number's word. There must be room.
func lay(a *arena.Arena, h api.Heap, c api.Cell) (api.Heap, uint64) {
	if c.Kind == number {
		return h, word.Int(c.N)
	}
	h, w, _ := object.Put(a, h, objectOf(c))
	return h, w
}
