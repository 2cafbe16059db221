package local_test

import (
	"math/rand"
	"slices"
	"testing"

	"escapement/api"
	"escapement/local"
)

const (
	maxTicks = 1 << 20
	maxHyper = 4096
)

// task is one that has nothing.
func task(period, deadline, bound int) api.Task {
	return api.Task{Period: period, Deadline: deadline, Bound: bound}
}

// keeps is a task with another Local.
func keeps(t api.Task, local int) api.Task {
	t.Local = local
	return t
}

// takes is a task with another Global, so often and for so long.
func takes(t api.Task, global, long, locks int) api.Task {
	t.Global, t.Long, t.Locks = global, long, locks
	return t
}

// part is a partition of these numbers.
func part(period, budget int, tasks ...api.Task) api.Part {
	return api.Part{Period: period, Budget: budget, Tasks: tasks}
}

// parts is a list of partitions.
func parts(l ...api.Part) []api.Part {
	return l
}

// wantSlack holds a slack against what it should be. (Nobody here asks for t.Helper, which is slow; what is told names the call.)
func wantSlack(t *testing.T, l []api.Part, part, n, number int, errno api.Errno) {
	if got, e := local.Slack(l, part, n); got != number || e != errno {
		t.Errorf("Slack(%v, %d, %d): %d, error %d; not %d, error %d", l, part, n, got, e, number, errno)
	}
}

// wantTest holds a test against what it should answer.
func wantTest(t *testing.T, l []api.Part, part, at int, errno api.Errno) {
	if got, e := local.Test(l, part); got != at || e != errno {
		t.Errorf("Test(%v, %d): %d, error %d; not %d, error %d", l, part, got, e, at, errno)
	}
}

// passes tells whether a partition passes the test.
func passes(l []api.Part, part int) bool {
	_, e := local.Test(l, part)
	return e == api.OK
}

// model is what the chapters' words say of a partition.
type model struct {
	api.Part
	more, by []int // of each task: what is more, and the delay by it
}

// modelOf is that of one of the partitions.
func modelOf(l []api.Part, part int) model {
	m := model{Part: l[part]}
	for _, x := range m.Tasks {
		wait, more, by := 0, 0, x.Local
		if x.Global != 0 {
			for i, p := range l {
				if i != part && uses(p, x.Global) {
					wait += p.Period + p.Period
				}
			}
			for range x.Locks {
				more += wait + x.Long - 1
			}
			by = max(by, wait+x.Long+x.Long-1)
		}
		m.more, m.by = append(m.more, more), append(m.by, by)
	}
	return m
}

// uses tells whether some task of a partition has a Global.
func uses(p api.Part, global int) bool {
	for _, x := range p.Tasks {
		if x.Global == global {
			return true
		}
	}
	return false
}

// runs tells whether the server runs in a tick of a row, which begins where it has just run in the first ticks of a period; it runs in the last ones of each period from then on.
func (m model) runs(tick int) bool {
	place := m.Budget + tick
	return place >= m.Period && place%m.Period >= m.Period-m.Budget
}

// slacks are those of 0 ticks to most; and whether something is asked for in so many.
func (m model) slacks(most int) (left []int, asked []bool) {
	given, due := 0, 0
	for n := range most + 1 {
		if n > 0 && m.runs(n-1) {
			given++
		}
		kept := 0
		for i, x := range m.Tasks {
			// All jobs are released as soon as may be, the first ones at 0.
			if n >= x.Deadline && (n-x.Deadline)%x.Period == 0 {
				due += x.Bound + m.more[i]
			}
			if x.Deadline > n {
				kept = max(kept, m.by[i])
			}
		}
		left, asked = append(left, given-due-kept), append(asked, due > 0)
	}
	return left, asked
}

// hyper is the hyperperiod; none, if it is above the limit.
func (m model) hyper() (hyper int, is bool) {
	for hyper = m.Period; hyper <= maxHyper; hyper += m.Period {
		fits := true
		for _, x := range m.Tasks {
			fits = fits && hyper%x.Period == 0
		}
		if fits {
			return hyper, true
		}
	}
	return 0, false
}

// longest is the greatest Deadline.
func (m model) longest() int {
	longest := 0
	for _, x := range m.Tasks {
		longest = max(longest, x.Deadline)
	}
	return longest
}

// due is for how many ticks all jobs ask that are released in so many.
func (m model) due(ticks int) int {
	due := 0
	for n := range ticks {
		for i, x := range m.Tasks {
			if n%x.Period == 0 {
				due += x.Bound + m.more[i]
			}
		}
	}
	return due
}

// test is what the test should answer.
func (m model) test() (at int, e api.Errno) {
	if len(m.Tasks) == 0 {
		return 0, api.OK
	}
	hyper, is := m.hyper()
	if !is {
		return 0, api.ErrLimit
	}
	if m.due(hyper) > hyper/m.Period*m.Budget {
		return 0, api.ErrRefused
	}
	left, asked := m.slacks(hyper + m.longest() + 2*m.Period)
	for n := range left {
		if n > 0 && asked[n] && left[n] < 0 {
			return n, api.ErrRefused
		}
	}
	return 0, api.OK
}

// wantModel fails the test unless a partition's test, and its slacks of 0 ticks to a hyperperiod beyond its end, are the model's; it answers the test's error.
func wantModel(t *testing.T, l []api.Part, part int) api.Errno {
	m := modelOf(l, part)
	at, e := m.test()
	wantTest(t, l, part, at, e)
	hyper, _ := m.hyper()
	left, _ := m.slacks(2*hyper + m.longest() + 2*m.Period)
	for n, number := range left {
		wantSlack(t, l, part, n, number, api.OK)
	}
	if t.Failed() {
		t.FailNow()
	}
	return e
}

// upTo is any number from 1 to n, often one of its edges.
func upTo(random *rand.Rand, n int) int {
	switch random.Intn(4) {
	case 0:
		return 1
	case 1:
		return n
	}
	return 1 + random.Intn(n)
}

// someTask is any task that may be asked in a partition with that budget, with a Bound up to most, so that some pass the test.
func someTask(random *rand.Rand, budget, most int) api.Task {
	period := upTo(random, api.MaxTime)
	if random.Intn(2) == 0 {
		period = []int{4, 6, 8, 12, 24, 48}[random.Intn(6)]
	}
	deadline := upTo(random, period)
	x := task(period, deadline, upTo(random, min(deadline, most)))
	if random.Intn(3) == 0 {
		x.Local = upTo(random, x.Bound)
	}
	if random.Intn(4) != 0 {
		return x
	}
	long := upTo(random, min(budget, x.Bound))
	return takes(x, upTo(random, api.MaxGlobals), long, upTo(random, x.Bound/long))
}

// somePart is any partition that may be asked, with Bounds up to most.
func somePart(random *rand.Rand, most int) api.Part {
	period := upTo(random, api.MaxTime)
	if random.Intn(2) == 0 {
		period = 1 + random.Intn(8)
	}
	p := part(period, upTo(random, period))
	for range random.Intn(api.MaxTasks + 1) {
		p.Tasks = append(p.Tasks, someTask(random, p.Budget, most))
	}
	return p
}

// someParts are so many partitions that may be asked.
func someParts(random *rand.Rand, many, most int) []api.Part {
	var l []api.Part
	for range many {
		l = append(l, somePart(random, most))
	}
	return l
}

// copied is a list that shares nothing with another one.
func copied(l []api.Part) []api.Part {
	l = slices.Clone(l)
	for i := range l {
		l[i].Tasks = slices.Clone(l[i].Tasks)
	}
	return l
}
