package gate_test

import (
	"math/rand"
	"slices"
	"testing"

	"escapement/api"
	"escapement/conf"
	"escapement/gate"
	"escapement/local"
	"escapement/share"
)

// task is one that has nothing.
func task(period, deadline, bound int) api.Task {
	return api.Task{Period: period, Deadline: deadline, Bound: bound}
}

// takes is a task with another Global, so often and for so long.
func takes(t api.Task, global, long, locks int) api.Task {
	t.Global, t.Long, t.Locks = global, long, locks
	return t
}

// part is a partition of these numbers: the budget by the period, as the chapter writes it.
func part(budget, period int, tasks ...api.Task) api.Part {
	return api.Part{Period: period, Budget: budget, Tasks: tasks}
}

// config is a configuration of partitions, without ports.
func config(l ...api.Part) api.Config {
	return api.Config{Parts: l}
}

// who is the list of so many bools in which these numbers are in.
func who(many int, numbers ...int) []bool {
	in := make([]bool, many)
	for _, n := range numbers {
		in[n] = true
	}
	return in
}

// everyWho are all lists of so many bools.
func everyWho(many int) [][]bool {
	all := make([][]bool, 1<<many)
	for bits := range all {
		all[bits] = make([]bool, many)
		for i := range many {
			all[bits][i] = bits>>i&1 == 1
		}
	}
	return all
}

// wantTest holds a test against what it should answer. (Nobody here asks for t.Helper, which is slow; what is told names the call.)
func wantTest(t *testing.T, c api.Config, in []bool, part, at int, errno api.Errno) {
	if gotPart, gotAt, e := gate.Test(c, in); gotPart != part || gotAt != at || e != errno {
		t.Errorf("Test(%v, %v): %d, %d, error %d; not %d, %d, error %d", c, in, gotPart, gotAt, e, part, at, errno)
	}
}

// wantPass fails the test unless those that are in pass.
func wantPass(t *testing.T, c api.Config, in []bool) {
	wantTest(t, c, in, -1, 0, api.OK)
}

// wantJoin holds a join against what it should answer.
func wantJoin(t *testing.T, c api.Config, in []bool, part int, errno api.Errno) {
	if e := gate.Join(c, in, part); e != errno {
		t.Errorf("Join(%v, %v, %d): error %d; not %d", c, in, part, e, errno)
	}
}

// wantChange holds a change against what it should answer: an error alone, or the configuration that differs in the period and the budget only.
func wantChange(t *testing.T, c api.Config, in []bool, part, period, budget int, errno api.Errno) {
	var want api.Config
	if errno == api.OK {
		want = copied(c)
		want.Parts[part].Period, want.Parts[part].Budget = period, budget
	}
	if got, e := gate.Change(c, in, part, period, budget); e != errno || !same(got, want) {
		t.Errorf("Change(%v, %v, %d, %d, %d): %v, error %d; not %v, error %d", c, in, part, period, budget, got, e, want, errno)
	}
}

// passes tells whether those that are in pass the test.
func passes(c api.Config, in []bool) bool {
	_, _, e := gate.Test(c, in)
	return e == api.OK
}

// modelTest is what a test should answer.
func modelTest(c api.Config, in []bool) (part, at int, e api.Errno) {
	if e := conf.Check(c); e != api.OK {
		return 0, 0, e
	}
	if len(in) != len(c.Parts) {
		return 0, 0, api.ErrArg
	}
	var those []api.Part
	place := map[int]int{} // of those that are in, among these
	for i := range in {
		if in[i] {
			place[i] = len(those)
			those = append(those, c.Parts[i])
		}
	}
	if e := share.Test(those); e != api.OK {
		return -1, 0, e
	}
	for i := range in {
		if !in[i] {
			continue
		}
		if at, e := local.Test(those, place[i]); e != api.OK {
			return i, at, e
		}
	}
	return -1, 0, api.OK
}

// modelJoin is what a join should answer.
func modelJoin(c api.Config, in []bool, part int) api.Errno {
	if _, _, e := modelTest(c, in); e == api.ErrConf || e == api.ErrArg {
		return e
	}
	if part < 0 || part >= len(in) {
		return api.ErrRange
	}
	with := slices.Clone(in)
	with[part] = true
	_, _, e := modelTest(c, with)
	return e
}

// modelChange is the error that a change should answer.
func modelChange(c api.Config, in []bool, part, period, budget int) api.Errno {
	if _, _, e := modelTest(c, in); e == api.ErrConf || e == api.ErrArg {
		return e
	}
	if part < 0 || part >= len(in) {
		return api.ErrRange
	}
	changed := copied(c)
	changed.Parts[part].Period, changed.Parts[part].Budget = period, budget
	if e := conf.Check(changed); e != api.OK || !in[part] {
		return e
	}
	_, _, e := modelTest(changed, in)
	return e
}

// upTo is any number from 1 to n, often one of its edges.
func upTo(random *rand.Rand, n int) int {
	switch random.Intn(4) {
	case 0:
		return 1
	case 1:
		return n
	}
	return 1 + random.Intn(n)
}

// someTask is any task that may be in a partition with that budget, with a Bound up to most, so that some pass the test.
func someTask(random *rand.Rand, budget, most int) api.Task {
	period := upTo(random, api.MaxTime)
	if random.Intn(4) != 0 {
		period = []int{12, 16, 24, 32, 48, 64}[random.Intn(6)]
	}
	x := task(period, period, upTo(random, min(period, most)))
	if random.Intn(2) == 0 {
		x.Deadline = x.Bound + random.Intn(period-x.Bound+1)
	}
	if random.Intn(4) == 0 {
		x.Locals, x.Local = upTo(random, 255), upTo(random, x.Bound)
	}
	if random.Intn(3) != 0 {
		return x
	}
	long := upTo(random, min(budget, x.Bound))
	return takes(x, 1+random.Intn(2), long, upTo(random, x.Bound/long))
}

// someConfig is any configuration of so many partitions that may be, of which some pass.
func someConfig(random *rand.Rand, many int) api.Config {
	var c api.Config
	for range many {
		period := []int{2, 3, 4, 6, 8, 12, 16, upTo(random, api.MaxTime)}[random.Intn(8)]
		p := part(upTo(random, max(1, min(period, period*3/(many+1)))), period)
		for range random.Intn(3) {
			p.Tasks = append(p.Tasks, someTask(random, p.Budget, []int{1, 2, 4}[random.Intn(3)]))
		}
		c.Parts = append(c.Parts, p)
	}
	if many > 1 && random.Intn(2) == 0 {
		c.Ports = append(c.Ports, sample(0, many-1), queue(many-1, 0))
	}
	return c
}

// sample is a port for one message.
func sample(from, to int) api.Port {
	return api.Port{Kind: api.PortSample, From: from, To: to, Size: 3, Age: 9}
}

// queue is a port for several messages.
func queue(from, to int) api.Port {
	return api.Port{Kind: api.PortQueue, From: from, To: to, Size: 16, Depth: 2}
}

// copied is a configuration that shares nothing with another one; it has that one's spare room.
func copied(c api.Config) api.Config {
	c.Parts, c.Ports = roomy(c.Parts), roomy(c.Ports)
	all := c.Parts[:cap(c.Parts)]
	for i := range all {
		all[i].Tasks = roomy(all[i].Tasks)
	}
	return c
}

// roomy is a list that has the same elements as another one, and the same ones behind these.
func roomy[E any](l []E) []E {
	whole := make([]E, cap(l))
	copy(whole, l[:cap(l)])
	return whole[:len(l)]
}

// whole is a configuration that has what stands in the spare room of another one, too.
func whole(c api.Config) api.Config {
	c = copied(c)
	c.Parts, c.Ports = c.Parts[:cap(c.Parts)], c.Ports[:cap(c.Ports)]
	for i := range c.Parts {
		c.Parts[i].Tasks = c.Parts[i].Tasks[:cap(c.Parts[i].Tasks)]
	}
	return c
}

// same tells whether two configurations are the same.
func same(c, d api.Config) bool {
	return slices.Equal(c.Ports, d.Ports) && slices.EqualFunc(c.Parts, d.Parts, func(p, q api.Part) bool {
		return p.Period == q.Period && p.Budget == q.Budget && slices.Equal(p.Tasks, q.Tasks)
	})
}
