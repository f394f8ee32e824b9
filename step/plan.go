package step

import (
	"stockpot/api"
	"stockpot/arith"
	"stockpot/word"
)

// plan is what the instruction is going to do; nothing changes.
func (s spot) plan() deed {
	if s.lacks() {
		return broken()
	}
	return planOf(s.i.Op)(s)
}

// planOf is the plan of instructions of that Op, where there is all that they speak of, and all that they take.
func planOf(op int) func(spot) deed {
	plans := [api.Ops]func(spot) deed{
		api.OInt:   spot.constant,
		api.OStr:   spot.literal,
		api.OLocal: spot.local,
		api.OSet:   spot.set,
		api.OEnv:   spot.captured,
		api.OSelf:  spot.self,
		api.OClose: spot.closed,
		api.OCall:  spot.call,
		api.OTail:  spot.tail,
		api.ORet:   spot.ret,
		api.OJump:  spot.jump,
		api.OJumpZ: spot.jumpZero,
		api.OAdd:   spot.computed,
		api.OSub:   spot.computed,
		api.OMul:   spot.computed,
		api.ODiv:   spot.computed,
		api.OMod:   spot.computed,
		api.OEq:    spot.computed,
		api.OLess:  spot.computed,
		api.OBlock: spot.block,
		api.OField: spot.field,
		api.OIsInt: spot.isInt,
		api.OIsTag: spot.isTag,
		api.OStore: spot.store,
		api.OArray: spot.array,
		api.OGet:   spot.get,
		api.OPut:   spot.put,
		api.OLen:   spot.length,
		api.OCat:   spot.cat,
		api.OSize:  spot.size,
		api.OByte:  spot.byteAt,
		api.OText:  spot.text,
		api.OSame:  spot.same,
		api.OTry:   spot.try,
		api.OUntry: spot.untry,
		api.ORaise: spot.raise,
		api.OHost:  spot.host,
		api.OPop:   spot.pop,
	}
	return plans[op]
}

// leave goes on with the word in the place of what is taken.
func (s spot) leave(w uint64) deed {
	if s.full() {
		return deep()
	}
	return goes{leaves: []uint64{w}}
}

func (s spot) leaveNumber(n int64) deed { return s.leave(word.Int(n)) }

func (s spot) leaveWhether(holds bool) deed {
	if holds {
		return s.leaveNumber(1)
	}
	return s.leaveNumber(0)
}

// leaveObject goes on with an object in the place of what is taken.
func (s spot) leaveObject(o maker) deed {
	if s.full() {
		return deep()
	}
	return makes{o}
}

func (s spot) constant() deed { return s.leaveNumber(int64(s.i.A)) }

// place is where in the stack the local stands of which the instruction speaks.
func (s spot) place() int { return s.last().Base + s.i.A }

func (s spot) local() deed { return s.leave(s.m.Stack[s.place()]) }
func (s spot) set() deed   { return sets{at: s.place()} }
func (s spot) self() deed  { return s.leave(s.last().Self) }
func (s spot) pop() deed   { return goes{} }

func (s spot) captured() deed {
	o, ok := s.object(s.last().Self, api.Closure)
	if !ok || s.i.A >= len(o.Fields) {
		return broken()
	}
	return s.leave(o.Fields[s.i.A])
}

// computed is what package arith makes of two numbers: it refuses the division by 0 alone.
func (s spot) computed() deed {
	a, isA := number(s.taken()[0])
	b, isB := number(s.taken()[1])
	if !isA || !isB {
		return broken()
	}
	v, ok := arith.Of(s.i.Op, a, b)
	if !ok {
		return raises{code: api.RDiv}
	}
	return s.leaveNumber(v)
}

func (s spot) isInt() deed { return s.leaveWhether(s.taken()[0] == word.Int(int64(s.i.A))) }

func (s spot) isTag() deed {
	o, ok := s.object(s.taken()[0], api.Block)
	return s.leaveWhether(ok && o.Tag == s.i.A)
}
