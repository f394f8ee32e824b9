package run

import (
	"stockpot/api"
	"stockpot/arena"
	"stockpot/step"
)

// course is a run that is under way.
type course struct {
	a   *arena.Arena
	p   api.Program
	r   []api.Reply
	ran api.Ran // what it has come to so far; its lists still grow
}

// goesOn takes in what an instruction has come to, and says whether another one comes behind it.
func (c *course) goesOn(z api.Stepped) bool {
	c.ran.M, c.ran.Short = z.M, z.Short
	c.ran.Used += z.Used
	if z.Asks && !c.answered(z.Ask) {
		return false
	}
	// A machine that was Blocked is so no more, unless the answer made it so again.
	return !z.Short && c.ran.M.State == api.Ready
}

// answered gives the machine the next reply to what it asks; false, if there is none left.
func (c *course) answered(q api.Ask) bool {
	c.ran.Asks = append(c.ran.Asks, q)
	if c.ran.Had == len(c.r) {
		c.ran.Waits = true
		return false
	}
	c.ran.M, _ = step.Answer(c.a, c.p, c.ran.M, c.r[c.ran.Had])
	c.ran.Had++
	return true
}

// copied is what a run has come to, in lists that have no more room than they need and that nobody else has.
func copied(ran api.Ran) api.Ran {
	ran.M.Stack, ran.M.Frames, ran.M.Handlers = listOf(ran.M.Stack), listOf(ran.M.Frames), listOf(ran.M.Handlers)
	ran.Asks = listOf(ran.Asks)
	for i := range ran.Asks {
		ran.Asks[i].Mail = listOf(ran.Asks[i].Mail)
	}
	return ran
}

// listOf is a list of the same values that shares no memory with them.
func listOf[L ~[]V, V any](values L) L {
	own := make(L, len(values))
	copy(own, values)
	return own
}
