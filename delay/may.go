package delay

import (
	"escapement/api"
	"escapement/demand"
)

// within tells whether n is from low to high.
func within(n, low, high int) bool {
	return low <= n && n <= high
}

// isOneOf tells whether i is one of so many things, which are numbered from 0 on.
func isOneOf(many, i int) bool {
	return within(i, 0, many-1)
}

// partsMayBe tells whether these are as many partitions as there may be, all of which may be asked.
func partsMayBe(l []api.Part) bool {
	if len(l) > api.MaxParts {
		return false
	}
	for _, p := range l {
		if !within(p.Period, 1, api.MaxTime) || !within(p.Budget, 1, p.Period) || !tasksMayBe(p) {
			return false
		}
	}
	return true
}

// tasksMayBe tells whether the tasks of a partition, whose server may be, may be asked, with what they have and for how long.
func tasksMayBe(p api.Part) bool {
	nothing := make([]int, len(p.Tasks))
	if demand.Check(p.Tasks, nothing) != api.OK {
		return false
	}
	for _, t := range p.Tasks {
		if !within(t.Local, 0, t.Bound) || !sharedMayBe(t, p.Budget) {
			return false
		}
	}
	return true
}

// sharedMayBe tells whether a task of a partition with that budget may take so what partitions share.
func sharedMayBe(t api.Task, budget int) bool {
	if t.Global == 0 {
		return t.Long == 0 && t.Locks == 0
	}
	// A Bound is divided, since Long times Locks may wrap round.
	return within(t.Global, 1, api.MaxGlobals) && within(t.Long, 1, budget) && within(t.Locks, 1, t.Bound/t.Long)
}
