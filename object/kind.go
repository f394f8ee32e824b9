package object

import "stockpot/api"

// kind is what the objects of one kind have of their own.
type kind interface {
	// size is what an object's head tells as its size; false, if the object has what its kind has not.
	size(o api.Object) (int, bool)
	// may says whether an object may have that tag and that size.
	may(tag, size int) bool
	// long is how many words stand behind a head of that size.
	long(size int) int
	// lay is the words that stand behind the object's head.
	lay(o api.Object) []uint64
	// sound says whether words that are no fields may stand behind a head of that size.
	sound(body []uint64, size int) bool
	// fields are those of the words behind a head that are fields.
	fields(body []uint64) []uint64
	// text is what the words behind a head of that size spell.
	text(body []uint64, size int) string
}

// kindOf is the kind of that number, nil if no object may be of it: a Moved is what an object leaves behind.
func kindOf(number int) kind {
	switch number {
	case api.Block:
		return block{}
	case api.Str:
		return str{}
	case api.Array:
		return array{}
	case api.Closure:
		return closure{}
	}
	return nil
}

// fielded is what the kinds with a word for each field have in common.
type fielded struct{}

func (fielded) size(o api.Object) (int, bool)       { return len(o.Fields), o.Text == "" }
func (fielded) long(size int) int                   { return size }
func (fielded) lay(o api.Object) []uint64           { return o.Fields }
func (fielded) sound(body []uint64, size int) bool  { return true }
func (fielded) fields(body []uint64) []uint64       { return body }
func (fielded) text(body []uint64, size int) string { return "" }

type block struct{ fielded }

func (block) may(tag, size int) bool {
	return tag >= 0 && tag <= api.MaxTag && size >= 1 && size <= api.MaxSize
}

type array struct{ fielded }

func (array) may(tag, size int) bool { return tag == 0 && size <= api.MaxArray }

type closure struct{ fielded }

func (closure) may(tag, size int) bool {
	return tag >= 0 && tag < api.MaxFuncs && size <= api.MaxFree
}

// inWord is how many bytes of a text lie in a word.
const inWord = 8

type str struct{}

func (str) size(o api.Object) (int, bool) { return len(o.Text), len(o.Fields) == 0 }
func (str) may(tag, size int) bool        { return tag == 0 && size <= api.MaxBytes }
func (str) long(size int) int             { return (size + inWord - 1) / inWord }
func (str) fields(body []uint64) []uint64 { return nil }

func (s str) lay(o api.Object) []uint64 {
	body := make([]uint64, s.long(len(o.Text)))
	for i := range len(o.Text) {
		body[i/inWord] |= uint64(o.Text[i]) << low(i)
	}
	return body
}

func (str) sound(body []uint64, size int) bool {
	over := low(size)
	return over == 0 || body[size/inWord]>>over == 0
}

func (str) text(body []uint64, size int) string {
	bytes := make([]byte, size)
	for i := range bytes {
		bytes[i] = byte(body[i/inWord] >> low(i))
	}
	return string(bytes)
}

// low is how many bits of its word lie below a text's byte i.
func low(i int) int { return i % inWord * 8 }
