package op

import "stockpot/api"

// span is which numbers an instruction's A or B may be.
type span int

// The spans of the table; a row that says nothing of A or B has none there.
const (
	none     span = iota // 0 alone
	number               // a number of 63 bits
	strs                 // a program's text
	locals               // a local
	captured             // one of what a closure has captured
	closed               // a function that a closure may be of
	captures             // how many a closure captures
	places               // a place in a function's code
	tags                 // a Block's tag
	sizes                // how many fields a Block has
	fields               // one of a Block's fields
	calls                // a host's call
	forms                // a program's form
)

// spans is the least and the last number of each span.
var spans = [...]struct{ least, last int }{
	none:     {0, 0},
	number:   {-1 << 62, 1<<62 - 1},
	strs:     {0, api.MaxStrs - 1},
	locals:   {0, api.MaxLocals - 1},
	captured: {0, api.MaxFree - 1},
	closed:   {1, api.MaxFuncs - 1},
	captures: {0, api.MaxFree},
	places:   {0, api.MaxCode - 1},
	tags:     {0, api.MaxTag},
	sizes:    {1, api.MaxSize},
	fields:   {0, api.MaxSize - 1},
	calls:    {0, api.Hosts - 1},
	forms:    {0, api.MaxForms - 1},
}

// has says whether n is one of the span's numbers.
func (s span) has(n int) bool { return n >= spans[s].least && n <= spans[s].last }
