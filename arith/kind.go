package arith

import "stockpot/api"

// kind is what an op does with two numbers.
type kind int

// The kinds of the table; an op of which the table says nothing has the first one.
const (
	none kind = iota
	sum
	difference
	product
	quotient
	rest
	equal
	below
)

// kinds is what each Op does with two numbers.
var kinds = [api.Ops]kind{
	api.OAdd:  sum,
	api.OSub:  difference,
	api.OMul:  product,
	api.ODiv:  quotient,
	api.OMod:  rest,
	api.OEq:   equal,
	api.OLess: below,
}

// kindOf is the op's kind, none of what is no Op.
func kindOf(op int) kind {
	if op < 0 || op >= len(kinds) {
		return none
	}
	return kinds[op]
}

// of is what the kind makes of two numbers of 63 bits, not yet wrapped; false, if it makes nothing of them.
func (k kind) of(a, b int64) (int64, bool) {
	switch k {
	case sum:
		return a + b, true
	case difference:
		return a - b, true
	case product: // what runs over 64 bits is gone, and the lowest 63 are right
		return a * b, true
	case quotient, rest:
		return k.divided(a, b)
	case equal:
		return bit(a == b), true
	case below:
		return bit(a < b), true
	}
	return 0, false
}

// divided is the quotient, or what is left; false by 0.
func (k kind) divided(a, b int64) (int64, bool) {
	if b == 0 {
		return 0, false
	}
	if k == rest {
		return a % b, true
	}
	return a / b, true
}

// bit is the number that stands for whether something holds.
func bit(holds bool) int64 {
	if holds {
		return 1
	}
	return 0
}
