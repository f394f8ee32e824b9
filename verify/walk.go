package verify

import (
	"slices"

	"stockpot/api"
	"stockpot/op"
)

// state is of an instruction how high the stack is ahead of it, above the locals, and how many handlers wait.
type state = [2]int

// The places in a state.
const (
	height   = 0
	handlers = 1
)

const (
	mostHeight   = 100
	mostHandlers = 10
)

// without stands for the state of an instruction that has none; no state is below 0.
var without = state{-1, -1}

// walk goes from instructions with a state to those that come next; it is wrong, once the code can't be a right function's.
type walk struct {
	code   []api.Ins
	states []state
	todo   []int // those with a state from which the walk has not gone on
	wrong  bool
}

// statesOf is of each instruction its state; false, if the states are not those of a right function. The jumps are within the code.
func statesOf(code []api.Ins) ([]state, bool) {
	w := &walk{code: code, states: slices.Repeat([]state{without}, len(code))}
	w.come(0, state{0, 0})
	for len(w.todo) > 0 && !w.wrong {
		last := len(w.todo) - 1
		at := w.todo[last]
		w.todo = w.todo[:last]
		w.leave(at)
	}
	if w.wrong {
		return nil, false
	}
	return w.states, true
}

// come gives the instruction the state, which is the one that it has, if it has one.
func (w *walk) come(at int, s state) {
	switch {
	case at >= len(w.code) || !within(s):
		w.wrong = true
	case w.states[at] == without:
		w.states[at] = s
		w.todo = append(w.todo, at)
	case w.states[at] != s:
		w.wrong = true
	}
}

// leave goes on from the instruction, which has a state, to those that come next.
func (w *walk) leave(at int) {
	i, s := w.code[at], w.states[at]
	takes, leaves, _ := op.Effect(i)
	if takes > s[height] || !endsWell(i, s) {
		w.wrong = true
		return
	}
	next := state{s[height] - takes + leaves, s[handlers]}
	switch i.Op {
	case api.OJump, api.OJumpZ:
		w.come(i.A, next)
	case api.OTry: // at A the handler is gone, and what was raised lies on the stack
		w.come(i.A, state{next[height] + 1, next[handlers]})
		next[handlers]++
	case api.OUntry:
		next[handlers]--
	}
	if !op.Ends(i) {
		w.come(at+1, next)
	}
}

// within says whether there may be such a state.
func within(s state) bool {
	return s[height] <= mostHeight && s[handlers] >= 0 && s[handlers] <= mostHandlers
}

// endsWell says whether the function may be left by the instruction in this state, if it is one by which it is left.
func endsWell(i api.Ins, s state) bool {
	switch i.Op {
	case api.ORet:
		return s == state{1, 0}
	case api.OTail:
		return s == state{2, 0}
	}
	return true
}
