// Package word is layer 1: see shared/doc/01-word.md.
package word

// lastPlace is the greatest place that a word can point to.
const lastPlace = 1<<32 - 1

// held is a word as it lies where its number is read.
type held [1]uint64

// number shifts with the sign, since the number's sign is the word's highest bit.
func (h held) number() int64 { return int64(h[0]) >> 1 }

// Int is the word of the number that has the lowest 63 bits of v.
func Int(v int64) uint64 {
	// The shift drops the very bit of v that Wrap drops: v need not be wrapped first.
	return uint64(v)<<1 | 1
}

// IsInt says whether w is a number's word.
func IsInt(w uint64) bool { return w&1 == 1 }

// Value is the number of a number's word, and 0 of any other word.
func Value(w uint64) int64 {
	if !IsInt(w) {
		return 0
	}
	return held{w}.number()
}

// Wrap is the number of 63 bits that has the lowest 63 bits of v.
func Wrap(v int64) int64 { return held{Int(v)}.number() }

// Place is the word of a place, and the word of the number 0 where at is none.
func Place(at int) uint64 {
	if at < 0 || uint64(at) > lastPlace {
		return Int(0)
	}
	return 2 * uint64(at)
}

// At is the place to which w points; false where it points to none.
func At(w uint64) (int, bool) {
	if IsInt(w) || w > 2*lastPlace {
		return 0, false
	}
	return int(w / 2), true
}
