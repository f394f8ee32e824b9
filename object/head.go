package object

import "stockpot/api"

// head is what an object's head tells.
type head struct{ kind, tag, size int }

// Where in a head's word the tag and the size begin.
const (
	tagAt  = 8
	sizeAt = 32
)

// word is the head's word.
func (h head) word() uint64 {
	return uint64(h.kind) | uint64(h.tag)<<tagAt | uint64(h.size)<<sizeAt
}

// apart is the head of which w is the word: each of its bits is in one of the three.
func apart(w uint64) head {
	return head{int(w % (1 << tagAt)), int(w % (1 << sizeAt) >> tagAt), int(w >> sizeAt)}
}

// headOf is the object's head, and the kind that it is of; false, if the object may not be.
func headOf(o api.Object) (head, kind, bool) {
	k := kindOf(o.Kind)
	if k == nil {
		return head{}, nil, false
	}
	size, ok := k.size(o)
	if !ok || !k.may(o.Tag, size) {
		return head{}, nil, false
	}
	return head{o.Kind, o.Tag, size}, k, true
}
