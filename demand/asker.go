package demand

import (
	"escapement/api"
	"escapement/ticks"
)

// asker is a task that may be asked: how often, how soon, and for how many ticks a job asks.
type asker struct {
	period, deadline, job int
}

// askers are tasks with what is more of each.
func askers(l []api.Task, more []int) []asker {
	all := make([]asker, len(l))
	for i, t := range l {
		all[i] = asker{t.Period, t.Deadline, t.Bound + more[i]}
	}
	return all
}

// due is how many jobs at most are released, and have their deadlines, in t ticks in a row.
func (a asker) due(t int) int {
	if t < a.deadline {
		return 0
	}
	return 1 + (t-a.deadline)/a.period
}

// sum is for how many ticks all ask, by what is told of each.
func sum(ofEach func(asker) int, l ...asker) int {
	asked := make([]int, len(l))
	for i, a := range l {
		asked[i] = ofEach(a)
	}
	// There is no error to tell: four tasks, with a job of 64 + 4096 ticks in each of 2^20 ticks, are far below the horizon.
	n, _ := ticks.Sum(asked...)
	return n
}
