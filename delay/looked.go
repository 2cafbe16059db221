package delay

import (
	"iter"

	"escapement/api"
)

// others are all partitions but one.
type others struct {
	all []api.Part
	but int
}

// sharing goes through those of the others of which some task has a Global.
func (o others) sharing(global int) iter.Seq[api.Part] {
	return func(yield func(api.Part) bool) {
		for i, p := range o.all {
			if i != o.but && has(p.Tasks, global) && !yield(p) {
				return
			}
		}
	}
}

// has tells whether some task has a Global.
func has(l []api.Task, global int) bool {
	for _, t := range l {
		if t.Global == global {
			return true
		}
	}
	return false
}

// looked is a partition that is looked at, and its others.
type looked struct {
	api.Part
	others
}

// lookAt looks at one of the partitions, if they may be asked, and there is that one.
func lookAt(l []api.Part, part int) (looked, api.Errno) {
	if e := Check(l); e != api.OK {
		return looked{}, e
	}
	if !isOneOf(len(l), part) {
		return looked{}, api.ErrRange
	}
	return looked{l[part], others{l, part}}, api.OK
}

// wait is a task's: each other partition that shares its Global keeps it waiting for two of its periods.
func (p looked) wait(t api.Task) int {
	if t.Global == 0 {
		return 0
	}
	wait := 0
	for o := range p.sharing(t.Global) {
		wait += 2 * o.Period
	}
	return wait
}

// more is for how many ticks beyond its Bound a job of a task asks.
func (p looked) more(t api.Task) int {
	if t.Global == 0 {
		return 0
	}
	return t.Locks * (p.wait(t) + t.Long - 1)
}

// by is the delay by a task.
func (p looked) by(t api.Task) int {
	if t.Global == 0 {
		return t.Local
	}
	return max(t.Local, p.wait(t)+2*t.Long-1)
}

// delay is that of so many ticks: only tasks with longer Deadlines count.
func (p looked) delay(ticks int) int {
	most := 0
	for _, t := range p.Tasks {
		if t.Deadline > ticks {
			most = max(most, p.by(t))
		}
	}
	return most
}
