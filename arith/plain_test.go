package arith_test

import (
	"math/big"
	"strings"
)

const (
	least = -1 << 62
	most  = 1<<62 - 1
)

var (
	bigLeast = big.NewInt(least)
	bigMost  = big.NewInt(most)
	bigWhole = new(big.Int).Lsh(big.NewInt(1), 63)
)

// name is an op as these tests tell it, by the number that the document gives it.
type name int

const (
	add  name = 12
	sub  name = 13
	mul  name = 14
	div  name = 15
	mod  name = 16
	eq   name = 17
	less name = 18
)

// seven are the ops of numbers.
var seven = []name{add, sub, mul, div, mod, eq, less}

// plainWrap is the number from the least to the most that is n, or n and so many times 2^63.
func plainWrap(n *big.Int) *big.Int {
	w := new(big.Int).Mod(n, bigWhole)
	if w.Cmp(bigMost) > 0 {
		w.Sub(w, bigWhole)
	}
	return w
}

// wrapped is plainWrap of an int64.
func wrapped(v int64) int64 { return plainWrap(big.NewInt(v)).Int64() }

// plainOf is what the document asks of Of, of one of the seven, worked out with numbers that have no end.
func plainOf(op name, a, b int64) (int64, bool) {
	x, y, to := plainWrap(big.NewInt(a)), plainWrap(big.NewInt(b)), new(big.Int)
	if (op == div || op == mod) && y.Sign() == 0 {
		return 0, false
	}
	switch op {
	case add:
		to.Add(x, y)
	case sub:
		to.Sub(x, y)
	case mul:
		to.Mul(x, y)
	case div:
		to = plainQuotient(x, y)
	case mod:
		to.Sub(x, to.Mul(plainQuotient(x, y), y))
	case eq:
		to.SetInt64(plainBit(x.Cmp(y) == 0))
	case less:
		to.SetInt64(plainBit(x.Cmp(y) < 0))
	}
	return plainWrap(to).Int64(), true
}

// plainQuotient divides without signs first, so that it is cut towards 0.
func plainQuotient(x, y *big.Int) *big.Int {
	q := new(big.Int).Div(new(big.Int).Abs(x), new(big.Int).Abs(y))
	if x.Sign()*y.Sign() < 0 {
		q.Neg(q)
	}
	return q
}

func plainBit(holds bool) int64 {
	if holds {
		return 1
	}
	return 0
}

// plainParse is what the document asks of Parse, digit by digit.
func plainParse(s string) (int64, bool) {
	if len(s) < 1 || len(s) > 19 {
		return 0, false
	}
	n := new(big.Int)
	for i := range len(s) {
		d := strings.IndexByte("0123456789", s[i])
		if d < 0 {
			return 0, false
		}
		n.Add(n.Mul(n, big.NewInt(10)), big.NewInt(int64(d)))
	}
	if n.Cmp(bigMost) > 0 {
		return 0, false
	}
	return n.Int64(), true
}

// edges are all int64s within two of a power of two or of its opposite, and some of no special kind.
func edges() []int64 {
	l := []int64{7, -7, 9, -9, 10, -10, 1000003, -1000003, 0x0123456789abcdef, -0x0123456789abcdef, 0x3edcba9876543210, -0x3edcba9876543210, 3037000499, 3037000500, -3037000500}
	for k := range 64 {
		for d := range uint64(5) {
			l = append(l, int64(uint64(1)<<k+d-2), int64(-(uint64(1)<<k)+d-2))
		}
	}
	return l
}
