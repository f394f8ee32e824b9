package step

import (
	"stockpot/api"
	"stockpot/arith"
)

func (s spot) block() deed  { return s.leaveObject(joined(api.Block)) }
func (s spot) closed() deed { return s.leaveObject(joined(api.Closure)) }

func (s spot) field() deed {
	o, ok := s.object(s.taken()[0], api.Block)
	if !ok || s.i.A >= len(o.Fields) {
		return broken()
	}
	return s.leave(o.Fields[s.i.A])
}

func (s spot) store() deed {
	o, ok := s.object(s.taken()[0], api.Block)
	if !ok || o.Tag != 0 {
		return broken()
	}
	return stores{of: s.taken()[0], field: 0, w: s.taken()[1]}
}

func (s spot) array() deed {
	n, ok := number(s.taken()[0])
	if !ok {
		return broken()
	}
	if n < 0 || n > api.MaxArray {
		return raises{code: api.RLarge}
	}
	return s.leaveObject(repeated(n))
}

// within says whether there is a number n among so many.
func within(n int64, many int) bool { return n >= 0 && n < int64(many) }

func (s spot) get() deed {
	o, isArray := s.object(s.taken()[0], api.Array)
	n, isNumber := number(s.taken()[1])
	if !isArray || !isNumber {
		return broken()
	}
	if !within(n, len(o.Fields)) {
		return raises{code: api.RBound}
	}
	return s.leave(o.Fields[n])
}

func (s spot) put() deed {
	t := s.taken()
	o, isArray := s.object(t[0], api.Array)
	n, isNumber := number(t[1])
	if !isArray || !isNumber {
		return broken()
	}
	if !within(n, len(o.Fields)) {
		return raises{code: api.RBound}
	}
	return stores{of: t[0], field: int(n), w: t[2]}
}

func (s spot) length() deed {
	o, ok := s.object(s.taken()[0], api.Array)
	if !ok {
		return broken()
	}
	return s.leaveNumber(int64(len(o.Fields)))
}

func (s spot) literal() deed { return s.leaveObject(spelt(s.p.Strs[s.i.A])) }

// texts are those of both Strs that are taken; false, if one of them is none.
func (s spot) texts() (first, second string, ok bool) {
	a, isA := s.object(s.taken()[0], api.Str)
	b, isB := s.object(s.taken()[1], api.Str)
	return a.Text, b.Text, isA && isB
}

func (s spot) cat() deed {
	first, second, ok := s.texts()
	if !ok {
		return broken()
	}
	if len(first)+len(second) > api.MaxBytes {
		return raises{code: api.RLarge}
	}
	return s.leaveObject(spelt(first + second))
}

func (s spot) same() deed {
	first, second, ok := s.texts()
	if !ok {
		return broken()
	}
	return s.leaveWhether(first == second)
}

func (s spot) size() deed {
	o, ok := s.object(s.taken()[0], api.Str)
	if !ok {
		return broken()
	}
	return s.leaveNumber(int64(len(o.Text)))
}

func (s spot) byteAt() deed {
	o, isStr := s.object(s.taken()[0], api.Str)
	n, isNumber := number(s.taken()[1])
	if !isStr || !isNumber {
		return broken()
	}
	if !within(n, len(o.Text)) {
		return raises{code: api.RBound}
	}
	return s.leaveNumber(int64(o.Text[n]))
}

func (s spot) text() deed {
	n, ok := number(s.taken()[0])
	if !ok {
		return broken()
	}
	return s.leaveObject(spelt(arith.Text(n)))
}
