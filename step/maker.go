package step

import (
	"slices"

	"stockpot/api"
)

// maker is what tells of the object that an instruction makes, out of the words that it takes.
type maker interface {
	object(s spot) api.Object
}

// spelt is a Str of a text.
type spelt string

func (t spelt) object(spot) api.Object { return api.Object{Kind: api.Str, Text: string(t)} }

// joined is an object of a kind, with the instruction's A as its tag, and all that is taken as its fields.
type joined int

func (kind joined) object(s spot) api.Object {
	return api.Object{Kind: int(kind), Tag: s.i.A, Fields: s.taken()}
}

// repeated is an Array of so many of the second word that is taken.
type repeated int

func (n repeated) object(s spot) api.Object {
	return api.Object{Kind: api.Array, Fields: slices.Repeat(s.taken()[1:], int(n))}
}
