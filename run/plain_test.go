package run_test

import (
	"stockpot/api"
	"stockpot/arena"
	"stockpot/frame"
	"stockpot/step"
)

// plainRun is what Run is to tell, and what it is to do to the arena, as the document's words follow one another.
func plainRun(a *arena.Arena, p api.Program, m api.Machine, fuel int, r []api.Reply) (x api.Ran, ok bool) {
	if !frame.Good(a, p, m) || m.State != api.Ready && m.State != api.Blocked {
		return api.Ran{}, false
	}
	left := fuel
	for x.M = m; x.M.State == api.Ready || x.M.State == api.Blocked; {
		cost, _ := step.Cost(a, p, x.M)
		if cost > left {
			x.Short = true
			break
		}
		z, _ := step.One(a, p, x.M, left)
		x.M, x.Used, left = z.M, x.Used+cost, left-cost
		if !z.Asks {
			continue
		}
		x.Asks = append(x.Asks, z.Ask)
		if x.Had == len(r) {
			x.Waits = true
			break
		}
		x.M, _ = step.Answer(a, p, x.M, r[x.Had])
		x.Had++
		if x.M.State == api.Blocked {
			break
		}
	}
	return x, true
}
