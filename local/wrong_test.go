package local_test

import (
	"math"
	"slices"
	"testing"

	"escapement/api"
	"escapement/local"
)

// far are numbers that are too small, or too great, wherever they stand.
var far = []int{math.MinInt, math.MinInt + 1, -maxTicks - 1, -maxTicks, -(1 << 40), -(1 << 32), -(1 << 32) + 1, -64, -5, -2, -1, maxTicks + 1, maxTicks + 2, 1 << 32, 1<<32 + 1, api.MaxTick, api.MaxTick + 1, math.MaxInt - 1, math.MaxInt}

// wantWrong fails the test unless partitions may not be asked, whatever is asked of them.
func wantWrong(t *testing.T, l []api.Part) {
	for _, part := range []int{math.MinInt, -1, 0, 1, len(l) - 1, len(l), math.MaxInt} {
		wantTest(t, l, part, 0, api.ErrArg)
		for _, n := range []int{math.MinInt, -1, 0, 3, maxTicks, maxTicks + 1, math.MaxInt} {
			wantSlack(t, l, part, n, 0, api.ErrArg)
		}
	}
}

// wantWrongPart fails the test unless a partition may not be asked, alone and wherever it stands among others.
func wantWrongPart(t *testing.T, bad api.Part) {
	for many := range api.MaxParts {
		others := parts(part(5, 2, task(20, 12, 2)), part(4, 1), part(8, 8, takes(task(9, 9, 1), 1, 1, 1)))[:many]
		for i := range many + 1 {
			wantWrong(t, slices.Insert(slices.Clone(others), i, bad))
		}
	}
}

// P10.1, P10.2: five partitions, and more.
func TestTooManyParts(t *testing.T) {
	for _, many := range []int{5, 6, 8, 100} {
		for _, p := range parts(part(4, 1), part(5, 2, task(20, 12, 2))) {
			wantWrong(t, slices.Repeat(parts(p), many))
		}
	}
}

// P10.1, P10.2: servers that there may not be, with tasks and without.
func TestNoServer(t *testing.T) {
	for _, n := range append([]int{0, 65, 66}, far...) {
		for _, tasks := range [][]api.Task{nil, {task(20, 12, 2)}} {
			wantWrongPart(t, part(n, 1, tasks...))
			wantWrongPart(t, part(n, n, tasks...))
			wantWrongPart(t, part(5, n, tasks...))
		}
	}
	wantWrongPart(t, part(5, 6, task(20, 12, 2)))
	wantWrongPart(t, part(63, 64))
}

// P10.1, P10.2: tasks that may not be asked: each number one too small, or too great, and far beyond that; and five tasks.
func TestNoTask(t *testing.T) {
	good := takes(keeps(task(20, 12, 6), 2), 1, 2, 3)
	wantTest(t, parts(part(5, 4, good)), 0, 12, api.ErrRefused)
	bad := []api.Task{
		task(20, 21, 6), task(20, 12, 13), keeps(task(20, 12, 6), 7),
		takes(task(20, 12, 6), 0, 1, 0), takes(task(20, 12, 6), 0, 0, 1), takes(task(20, 12, 6), 0, 2, 3),
		takes(task(20, 12, 6), 1, 0, 0), takes(task(20, 12, 6), 1, 0, 3), takes(task(20, 12, 6), 1, 2, 0),
		takes(task(20, 12, 6), 1, 2, 4), takes(task(20, 12, 6), 1, 3, 3), takes(task(20, 12, 6), 1, 5, 1), takes(task(20, 12, 6), 5, 2, 3),
		takes(task(20, 12, 6), 1, 4, 1<<62),
	}
	for _, n := range append([]int{65, 66}, far...) {
		for _, change := range []func(x *api.Task){
			func(x *api.Task) { x.Period = n },
			func(x *api.Task) { x.Deadline = n },
			func(x *api.Task) { x.Bound = n },
			func(x *api.Task) { x.Local = n },
			func(x *api.Task) { x.Global = n },
			func(x *api.Task) { x.Long = n },
			func(x *api.Task) { x.Locks = n },
		} {
			x := good
			change(&x)
			bad = append(bad, x)
		}
	}
	for _, x := range append(bad, task(0, 0, 0), task(20, 0, 0), task(20, 12, 0), task(0, 1, 1)) {
		wantWrongPart(t, part(5, 4, x))
		wantWrongPart(t, part(5, 4, task(9, 9, 1), good, x))
	}
	for _, many := range []int{5, 6, 100} {
		wantWrongPart(t, part(5, 4, slices.Repeat([]api.Task{task(20, 20, 1)}, many)...))
	}
}

// P10.1, P10.2: no partition at all, a partition of -1 and of as many as there are, and others that there are not; ahead of ticks that may not be.
func TestNowhere(t *testing.T) {
	all := parts(part(5, 2, task(20, 12, 2)), part(4, 1), part(4, 4, task(50, 50, 50), task(41, 41, 41)), part(2, 1, task(2, 1, 1)))
	for many := range len(all) + 1 {
		l := all[:many]
		for _, part := range append([]int{many, many + 1}, far...) {
			wantTest(t, l, part, 0, api.ErrRange)
			for _, n := range []int{math.MinInt, -1, 0, 3, maxTicks, maxTicks + 1, math.MaxInt} {
				wantSlack(t, l, part, n, 0, api.ErrRange)
			}
		}
	}
	wantTest(t, nil, 0, 0, api.ErrRange)
	wantSlack(t, nil, 0, -1, 0, api.ErrRange)
}

// P10.1: t of -1, of one above 2^20, and others that may not be; those beside them may, whether the partition passes or not, and has tasks or not.
func TestNoTicks(t *testing.T) {
	l := parts(part(5, 2, task(20, 12, 2)), part(5, 2), part(4, 4, task(50, 50, 50), task(41, 41, 41)), part(1, 1, task(1, 1, 1)))
	for part := range l {
		for _, n := range far {
			wantSlack(t, l, part, n, 0, api.ErrArg)
		}
		for _, n := range []int{0, 1, maxTicks - 1, maxTicks} {
			slack(t, l, part, n)
		}
	}
	wantSlack(t, l, 1, maxTicks, 419428, api.OK)
}

// P10.2: which error counts when two are wrong at once: partitions that may not be asked, then where there is none, then no tasks, then a hyperperiod above the limit, then too much asked for in it, then where too little is given.
func TestWhichFirst(t *testing.T) {
	above := part(4, 1, task(50, 50, 50), task(41, 1, 1))
	for _, row := range []struct {
		l    []api.Part
		part int
		at   int
		e    api.Errno
	}{
		{parts(above, part(0, 0)), 0, 0, api.ErrArg},
		{parts(above, part(0, 0)), 2, 0, api.ErrArg},
		{parts(above, part(4, 1)), 2, 0, api.ErrRange},
		{parts(above, part(4, 1)), 1, 0, api.OK},
		{parts(above, part(4, 1)), 0, 0, api.ErrLimit},
		{parts(part(4, 1, task(40, 40, 40), task(20, 1, 1))), 0, 0, api.ErrRefused},
		{parts(part(4, 1, task(40, 40, 8), task(20, 1, 1))), 0, 1, api.ErrRefused},
		{parts(part(4, 1, task(40, 40, 10))), 0, 40, api.ErrRefused},
		{parts(part(4, 1, task(40, 40, 9))), 0, 0, api.OK},
	} {
		wantTest(t, row.l, row.part, row.at, row.e)
	}
}

// P10.3: what is handed in is left as it was, its spare room too, whether it may be asked or not.
func TestOnlyRead(t *testing.T) {
	list := func(first api.Task) []api.Part {
		tasks := func() []api.Task {
			return append(make([]api.Task, 0, 8), first, takes(task(20, 20, 4), 2, 1, 4), task(71, 72, 73))[:2]
		}
		spare := part(77, 78, task(79, 80, 81))
		return append(make([]api.Part, 0, 8), part(5, 2, tasks()...), part(4, 4, tasks()...), part(4, 1), spare, spare)[:3]
	}
	whole := func(l []api.Part) (servers [][2]int, tasks [][]api.Task) {
		for _, p := range l[:cap(l)] {
			servers = append(servers, [2]int{p.Period, p.Budget})
			tasks = append(tasks, slices.Clone(p.Tasks[:cap(p.Tasks)]))
		}
		return servers, tasks
	}
	for _, first := range []api.Task{takes(task(60, 40, 4), 1, 2, 1), task(10, 5, 5), takes(task(10, 10, 4), 1, 2, 3), task(0, 0, 0)} {
		l := list(first)
		servers, tasks := whole(l)
		for part := -1; part <= len(l); part++ {
			local.Test(l, part)
			for _, n := range []int{-1, 0, 1, 9, 64, maxTicks} {
				local.Slack(l, part, n)
			}
		}
		nowServers, nowTasks := whole(l)
		if !slices.Equal(nowServers, servers) || !slices.EqualFunc(nowTasks, tasks, slices.Equal) {
			t.Errorf("%v, %v: now %v, %v", servers, tasks, nowServers, nowTasks)
		}
	}
}
