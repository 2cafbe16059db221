package local

import (
	"iter"

	"escapement/api"
	"escapement/delay"
	"escapement/demand"
	"escapement/supply"
)

// looked is a partition that is looked at, with what is more of each of its tasks, and where it stands among all.
type looked struct {
	api.Part
	more []int
	all  []api.Part
	part int
}

// lookAt looks at one of the partitions, if they may be asked, and there is that one.
func lookAt(l []api.Part, part int) (looked, api.Errno) {
	// Both errors are told by delay, in this order.
	more, e := delay.More(l, part)
	if e != api.OK {
		return looked{}, e
	}
	return looked{l[part], more, l, part}, api.OK
}

// asker tells for how many of so many ticks tasks ask: demand.Of, or demand.Use.
type asker func(l []api.Task, more []int, t int) (int, api.Errno)

// asked is for how many of so many ticks the tasks ask, with what is more.
func (p looked) asked(by asker, t int) int {
	asked, nothing := 0, []int{0}
	for i, x := range p.Tasks {
		// What is more may be above what demand may be told; so that tells how many jobs there are, and they ask for it here. There is no error to tell: the task may be asked, and so may t.
		bare, _ := by(p.Tasks[i:i+1], nothing, t)
		jobs := bare / x.Bound
		asked += jobs * (x.Bound + p.more[i])
	}
	return asked
}

// promised is how many of so many ticks the server gives in the long run.
func (p looked) promised(ticks int) int {
	return ticks / p.Period * p.Budget
}

// end is how far slacks are looked at: from there on they are what they were a hyperperiod ago, or more.
func (p looked) end(hyper int) int {
	longest := 0
	for _, x := range p.Tasks {
		longest = max(longest, x.Deadline)
	}
	return hyper + longest + 2*p.Period
}

// slack is that of t ticks.
func (p looked) slack(t int) slack {
	// There is no error to tell: the partitions may be asked, and so may t.
	given, _ := supply.Of(p.Period, p.Budget, t)
	kept, _ := delay.Of(p.all, p.part, t)
	return slack{given, p.asked(demand.Of, t), kept}
}

// slacks goes through the slacks of 1 tick to the last one.
func (p looked) slacks(last int) iter.Seq2[int, slack] {
	return func(yield func(t int, s slack) bool) {
		for t := 1; t <= last; t++ {
			if !yield(t, p.slack(t)) {
				return
			}
		}
	}
}
