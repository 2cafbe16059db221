package demand_test

import (
	"fmt"
	"math/rand"
	"slices"
	"testing"

	"escapement/api"
	"escapement/demand"
)

const (
	maxTicks = 1 << 20
	maxMore  = 4096
)

// task is one of which only what is asked counts.
func task(period, deadline, bound int) api.Task {
	return api.Task{Period: period, Deadline: deadline, Bound: bound}
}

// The chapter's tasks.
var taskA, taskB = task(5, 4, 2), task(10, 10, 3)

// withPeriods are tasks with these periods.
func withPeriods(periods ...int) []api.Task {
	var l []api.Task
	for _, p := range periods {
		l = append(l, task(p, p, 1))
	}
	return l
}

// nothing is that no task has more.
func nothing(l []api.Task) []int {
	return make([]int, len(l))
}

// want holds a call against what it should answer. (What it tells names the call, so nobody here asks for t.Helper, which is slow.)
func want(t *testing.T, call func() string, got int, e api.Errno, number int, errno api.Errno) {
	if got != number || e != errno {
		t.Errorf("%s: %d, error %d; not %d, error %d", call(), got, e, number, errno)
	}
}

// wantCheck holds Check against what it should answer.
func wantCheck(t *testing.T, l []api.Task, more []int, errno api.Errno) {
	if e := demand.Check(l, more); e != errno {
		t.Errorf("Check(%v, %v): error %d, not %d", l, more, e, errno)
	}
}

// wantOf holds a demand against what it should be.
func wantOf(t *testing.T, l []api.Task, more []int, n, number int, errno api.Errno) {
	got, e := demand.Of(l, more, n)
	want(t, func() string { return fmt.Sprintf("Of(%v, %v, %d)", l, more, n) }, got, e, number, errno)
}

// wantHyper holds a hyperperiod against what it should be.
func wantHyper(t *testing.T, l []api.Task, period, number int, errno api.Errno) {
	got, e := demand.Hyper(l, period)
	want(t, func() string { return fmt.Sprintf("Hyper(%v, %d)", l, period) }, got, e, number, errno)
}

// wantUse holds what is asked for in the long run against what it should be.
func wantUse(t *testing.T, l []api.Task, more []int, n, number int, errno api.Errno) {
	got, e := demand.Use(l, more, n)
	want(t, func() string { return fmt.Sprintf("Use(%v, %v, %d)", l, more, n) }, got, e, number, errno)
}

// of is a demand that must be answered.
func of(t *testing.T, l []api.Task, more []int, n int) int {
	got, e := demand.Of(l, more, n)
	if e != api.OK {
		t.Fatalf("Of(%v, %v, %d): error %d", l, more, n, e)
	}
	return got
}

// modelOf is the demand, for which the jobs are counted one by one, from one that is released at the first tick on.
func modelOf(l []api.Task, more []int, n int) int {
	asked := 0
	for i, x := range l {
		for release := 0; release+x.Deadline <= n; release += x.Period {
			asked += x.Bound + more[i]
		}
	}
	return asked
}

// modelRow is the demand of 0 to most ticks: each job is added where its deadline is.
func modelRow(l []api.Task, more []int, most int) []int {
	row := make([]int, most+1)
	for i, x := range l {
		for at := x.Deadline; at <= most; at += x.Period {
			row[at] += x.Bound + more[i]
		}
	}
	for n := range most {
		row[n+1] += row[n]
	}
	return row
}

// modelHyper is the first number that all periods divide; 0, if it is above the limit.
func modelHyper(periods []int) int {
	for n := 1; n <= api.MaxHyper; n++ {
		if !slices.ContainsFunc(periods, func(p int) bool { return n%p != 0 }) {
			return n
		}
	}
	return 0
}

// modelUse is what is asked for in n ticks, job by job: each task has one in each of its periods.
func modelUse(l []api.Task, more []int, n int) int {
	asked := 0
	for i, x := range l {
		for release := 0; release < n; release += x.Period {
			asked += x.Bound + more[i]
		}
	}
	return asked
}

// someTask is any task that may be asked, with a period of most at most; some of its numbers are at their edges.
func someTask(random *rand.Rand, most int) api.Task {
	upTo := func(n int) int {
		switch random.Intn(4) {
		case 0:
			return 1
		case 1:
			return n
		}
		return 1 + random.Intn(n)
	}
	period := upTo(most)
	deadline := upTo(period)
	return task(period, deadline, upTo(deadline))
}

// someTasks are as many tasks as there may be, or fewer, and what is more of each.
func someTasks(random *rand.Rand, most int) (l []api.Task, more []int) {
	for range random.Intn(api.MaxTasks + 1) {
		l = append(l, someTask(random, most))
		more = append(more, []int{0, 0, 1, random.Intn(50), random.Intn(maxMore + 1), maxMore}[random.Intn(6)])
	}
	return l, more
}

// The chapter's examples.
func TestExamples(t *testing.T) {
	both := []api.Task{taskA, taskB}
	for _, row := range [][2]int{{3, 0}, {4, 2}, {8, 2}, {9, 4}, {10, 7}, {14, 9}} {
		wantOf(t, both, []int{0, 0}, row[0], row[1], api.OK)
	}
	wantOf(t, []api.Task{taskA}, []int{1}, 9, 6, api.OK)
	wantHyper(t, both, 4, 20, api.OK)
	wantHyper(t, both, 7, 70, api.OK)
	wantUse(t, both, []int{0, 0}, 20, 14, api.OK)
	for _, period := range []int{1, 5, 64} {
		wantHyper(t, withPeriods(64, 63, 61, 59), period, 0, api.ErrLimit)
	}
	wantOf(t, []api.Task{taskA}, nil, 3, 0, api.ErrArg)
}

// P8.1, P8.2: no task at all, told by nil or by an empty list.
func TestNoTask(t *testing.T) {
	for _, l := range [][]api.Task{nil, {}} {
		for _, more := range [][]int{nil, {}} {
			wantCheck(t, l, more, api.OK)
			for _, n := range []int{0, 1, 64, maxTicks} {
				wantOf(t, l, more, n, 0, api.OK)
			}
			for _, n := range []int{1, 2, 63, 64, maxTicks - 1, maxTicks} {
				wantUse(t, l, more, n, 0, api.OK)
			}
		}
		for period := 1; period <= api.MaxTime; period++ {
			wantHyper(t, l, period, period, api.OK)
		}
	}
}

// P8.1, P8.2: one task to four, which may be alike.
func TestSeveralTasks(t *testing.T) {
	l, more := []api.Task{task(8, 8, 1), task(8, 8, 1), task(4, 2, 2), task(16, 3, 3)}, []int{0, 0, 10, 100}
	for i, row := range []struct{ of15, of16, hyper, use int }{{1, 2, 24, 6}, {2, 4, 24, 12}, {2 + 48, 4 + 48, 24, 12 + 144}, {50 + 103, 52 + 103, 48, 156 + 309}} {
		wantCheck(t, l[:i+1], more[:i+1], api.OK)
		wantOf(t, l[:i+1], more[:i+1], 15, row.of15, api.OK)
		wantOf(t, l[:i+1], more[:i+1], 16, row.of16, api.OK)
		wantHyper(t, l[:i+1], 3, row.hyper, api.OK)
		wantUse(t, l[:i+1], more[:i+1], 48, row.use, api.OK)
	}
}

// P8.1: a Period of 1 and of 64, a Deadline of 1 and of the whole Period, a Bound of 1 and of the whole Deadline, more of 0 and of 4096; no tick, a Deadline, a Deadline and whole Periods, one beside each, the most ticks.
func TestOfEdges(t *testing.T) {
	for _, row := range []struct {
		task    api.Task
		more    int
		answers map[int]int // by t
	}{
		{task(1, 1, 1), 0, map[int]int{0: 0, 1: 1, 2: 2, 63: 63, 64: 64, maxTicks - 1: maxTicks - 1, maxTicks: maxTicks}},
		{task(1, 1, 1), maxMore, map[int]int{0: 0, 1: 4097, 2: 8194, maxTicks: 4097 * maxTicks}},
		{task(64, 64, 64), 0, map[int]int{0: 0, 1: 0, 63: 0, 64: 64, 65: 64, 127: 64, 128: 128, 129: 128, maxTicks - 1: 16383 * 64, maxTicks: 16384 * 64}},
		{task(64, 64, 64), maxMore, map[int]int{63: 0, 64: 4160, 127: 4160, 128: 8320, maxTicks: 4160 * 16384}},
		{task(64, 64, 1), 1, map[int]int{0: 0, 63: 0, 64: 2, 127: 2, 128: 4}},
		{task(64, 1, 1), 0, map[int]int{0: 0, 1: 1, 2: 1, 63: 1, 64: 1, 65: 2, 66: 2, 128: 2, 129: 3, maxTicks - 63: 16384, maxTicks - 64: 16383, maxTicks: 16384}},
		{task(64, 63, 63), 0, map[int]int{62: 0, 63: 63, 64: 63, 126: 63, 127: 126, maxTicks - 2: 16383 * 63, maxTicks - 1: 16384 * 63, maxTicks: 16384 * 63}},
		{task(2, 1, 1), 0, map[int]int{0: 0, 1: 1, 2: 1, 3: 2, 4: 2, 5: 3, maxTicks - 1: maxTicks / 2, maxTicks: maxTicks / 2}},
		{task(2, 2, 1), 0, map[int]int{0: 0, 1: 0, 2: 1, 3: 1, 4: 2, maxTicks - 1: maxTicks/2 - 1, maxTicks: maxTicks / 2}},
		{task(7, 3, 2), 5, map[int]int{0: 0, 2: 0, 3: 7, 4: 7, 9: 7, 10: 14, 11: 14, 16: 14, 17: 21, 18: 21}},
	} {
		for n, number := range row.answers {
			wantOf(t, []api.Task{row.task}, []int{row.more}, n, number, api.OK)
		}
	}
}

// P8.1: the greatest demand that there is.
func TestOfMost(t *testing.T) {
	l, more := slices.Repeat([]api.Task{task(1, 1, 1)}, api.MaxTasks), slices.Repeat([]int{maxMore}, api.MaxTasks)
	wantOf(t, l, more, maxTicks, 4*4097*maxTicks, api.OK)
	wantUse(t, l, more, maxTicks, 4*4097*maxTicks, api.OK)
}

// P8.1: every Period and Deadline, of few ticks, and of the most.
func TestOfEveryTask(t *testing.T) {
	for period := 1; period <= api.MaxTime; period++ {
		for deadline := 1; deadline <= period; deadline++ {
			l, more := []api.Task{task(period, deadline, 1+deadline/2)}, []int{period % 3}
			wantCheck(t, l, more, api.OK)
			for n := range 4 * api.MaxTime {
				wantOf(t, l, more, n, modelOf(l, more, n), api.OK)
			}
			// So many ticks are a Deadline and whole Periods.
			whole := deadline + (maxTicks-deadline)/period*period
			for _, n := range []int{whole - 1, whole, min(whole+1, maxTicks), maxTicks} {
				wantOf(t, l, more, n, modelOf(l, more, n), api.OK)
			}
		}
	}
}

// P8.1: every Bound that a Deadline lets be, and what is more.
func TestOfEveryBound(t *testing.T) {
	for bound := 1; bound <= api.MaxTime; bound++ {
		for _, deadline := range []int{bound, min(bound+1, api.MaxTime), api.MaxTime} {
			for _, more := range []int{0, 1, 63, 64, 65, maxMore - 1, maxMore} {
				l := []api.Task{task(api.MaxTime, deadline, bound)}
				wantCheck(t, l, []int{more}, api.OK)
				wantOf(t, l, []int{more}, deadline-1, 0, api.OK)
				wantOf(t, l, []int{more}, deadline, bound+more, api.OK)
				wantOf(t, l, []int{more}, deadline+2*api.MaxTime, 3*(bound+more), api.OK)
				wantUse(t, l, []int{more}, 5*api.MaxTime, 5*(bound+more), api.OK)
			}
		}
	}
}

// P8.1: some tasks, of all ticks that may be asked for.
func TestOfAllTicks(t *testing.T) {
	for _, row := range []struct {
		l    []api.Task
		more []int
	}{
		{[]api.Task{taskA, taskB}, []int{0, 0}},
		{[]api.Task{task(64, 64, 64), task(63, 1, 1), task(1, 1, 1), task(2, 1, 1)}, []int{0, maxMore, 3, 1}},
	} {
		for n, number := range modelRow(row.l, row.more, maxTicks) {
			wantOf(t, row.l, row.more, n, number, api.OK)
		}
	}
}

// P8.1, P8.2: several tasks of all sizes against the model.
func TestSomeTasks(t *testing.T) {
	random := rand.New(rand.NewSource(81))
	for i := range 4000 {
		l, more := someTasks(random, []int{4, 12, api.MaxTime}[i%3])
		wantCheck(t, l, more, api.OK)
		for range 10 {
			n := random.Intn(1 + random.Intn(500))
			wantOf(t, l, more, n, modelOf(l, more, n), api.OK)
		}
		period := 1 + random.Intn(api.MaxTime)
		periods := []int{period}
		for _, x := range l {
			periods = append(periods, x.Period)
		}
		hyper := modelHyper(periods)
		if hyper == 0 {
			wantHyper(t, l, period, 0, api.ErrLimit)
			continue
		}
		wantHyper(t, l, period, hyper, api.OK)
		for _, times := range []int{1, 2, maxTicks / hyper} {
			wantUse(t, l, more, times*hyper, modelUse(l, more, times*hyper), api.OK)
		}
	}
}

// P8.1: the order of tasks, and what else they say, counts for nothing.
func TestNothingElseCounts(t *testing.T) {
	random := rand.New(rand.NewSource(82))
	for range 500 {
		l, more := someTasks(random, 9)
		n := random.Intn(60)
		number := of(t, l, more, n)
		for i := range l {
			l[i].Locals, l[i].Local = random.Intn(600)-300, random.Intn(600)-300
			l[i].Global, l[i].Long, l[i].Locks = random.Intn(600)-300, random.Intn(600)-300, random.Intn(600)-300
		}
		random.Shuffle(len(l), func(i, j int) {
			l[i], l[j] = l[j], l[i]
			more[i], more[j] = more[j], more[i]
		})
		wantCheck(t, l, more, api.OK)
		wantOf(t, l, more, n, number, api.OK)
	}
}

// hypers are the hyperperiods of so many numbers, each with some that have it.
func hypers(many int) map[int][]int {
	all := map[int][]int{1: nil}
	for range many {
		next := map[int][]int{}
		for n, numbers := range all {
			for p := 1; p <= api.MaxTime; p++ {
				a, b := n, p
				for b != 0 {
					a, b = b, a%b
				}
				if next[n/a*p] == nil {
					next[n/a*p] = append(slices.Clone(numbers), p)
				}
			}
		}
		all = next
	}
	return all
}

// P8.2: each hyperperiod that four tasks and a period can have, told up to MaxHyper; which of the numbers is the period counts for nothing.
func TestHyperEveryOne(t *testing.T) {
	below, above := 0, 1<<40
	for n, numbers := range hypers(api.MaxTasks + 1) {
		number, errno := n, api.OK
		if n > api.MaxHyper {
			number, errno = 0, api.ErrLimit
			above = min(above, n)
		} else {
			below = max(below, n)
		}
		for i := range numbers {
			periods := slices.Concat(numbers[:i], numbers[i+1:])
			wantHyper(t, withPeriods(periods...), numbers[i], number, errno)
		}
	}
	if below != 4095 || above != 4100 {
		t.Errorf("the hyperperiods beside MaxHyper: %d, %d", below, above)
	}
}

// P8.2: a period of 1 and of 64; the greatest hyperperiod up to MaxHyper that periods of 64 at most can have (4096 itself is none), and the least one above it.
func TestHyperEdges(t *testing.T) {
	for _, row := range []struct {
		periods []int
		period  int
		number  int
		errno   api.Errno
	}{
		{[]int{1}, 1, 1, api.OK},
		{[]int{64}, 1, 64, api.OK},
		{[]int{1}, 64, 64, api.OK},
		{[]int{64, 64, 64, 64}, 64, 64, api.OK},
		{[]int{2, 4, 8, 16}, 32, 32, api.OK},
		{[]int{64}, 63, 4032, api.OK},
		{[]int{9, 35, 39}, 1, 4095, api.OK},
		{[]int{9, 5, 7, 13}, 45, 4095, api.OK},
		{[]int{35, 39}, 9, 4095, api.OK},
		{[]int{4, 50}, 41, 0, api.ErrLimit},
		{[]int{4, 50, 41}, 1, 0, api.ErrLimit},
		{[]int{64, 63}, 62, 0, api.ErrLimit},
		{[]int{64, 63, 61, 59}, 55, 0, api.ErrLimit},
		{[]int{64, 63, 61, 59}, 64, 0, api.ErrLimit},
	} {
		wantHyper(t, withPeriods(row.periods...), row.period, row.number, row.errno)
	}
}

// P8.2: the hyperperiod does not hang on Deadline and Bound.
func TestHyperOfPeriodsAlone(t *testing.T) {
	for deadline := 1; deadline <= 12; deadline++ {
		for bound := 1; bound <= deadline; bound++ {
			wantHyper(t, []api.Task{task(12, deadline, bound), task(18, deadline, bound)}, 8, 72, api.OK)
		}
	}
}

// P8.2: ticks of 1, of the most, and of all between that each Period divides; ErrArg of those that one does not, whichever it is.
func TestUseEdges(t *testing.T) {
	one := withPeriods(1)
	wantUse(t, one, []int{0}, 1, 1, api.OK)
	wantUse(t, one, []int{maxMore}, 1, 4097, api.OK)
	wantUse(t, one, []int{0}, maxTicks, maxTicks, api.OK)
	wantUse(t, withPeriods(64), []int{0}, maxTicks, 16384, api.OK)
	wantUse(t, withPeriods(64), []int{0}, 64, 1, api.OK)
	wantUse(t, withPeriods(63), []int{0}, maxTicks, 0, api.ErrArg)
	wantUse(t, withPeriods(2), []int{0}, 1, 0, api.ErrArg)
	wantUse(t, withPeriods(2), []int{0}, maxTicks-1, 0, api.ErrArg)
	periods := []int{4, 6, 9, 10}
	for range periods {
		periods = append(periods[1:], periods[0])
		l, more := withPeriods(periods...), []int{1, 1, 1, 1}
		for n := 1; n <= 1000; n++ {
			number, errno := 0, api.ErrArg
			if n%180 == 0 {
				number, errno = 2*(n/4+n/6+n/9+n/10), api.OK
			}
			wantUse(t, l, more, n, number, errno)
		}
		for i, p := range periods {
			// So many ticks are a multiple of each Period but one.
			others := modelHyper(slices.Delete(slices.Clone(periods), i, i+1))
			if others%p != 0 {
				wantUse(t, l, more, others, 0, api.ErrArg)
			}
		}
	}
}

// P8.2: ticks need be no multiple of MaxHyper's limit, nor at most it: only each Period counts.
func TestUseBeyondHyper(t *testing.T) {
	l := withPeriods(64, 63, 5)
	wantHyper(t, l, 1, 0, api.ErrLimit)
	wantUse(t, l, nothing(l), 64*63*5, 63*5+64*5+64*63, api.OK)
	wantUse(t, l, nothing(l), 2*64*63*5, 2*(63*5+64*5+64*63), api.OK)
	wantUse(t, l, nothing(l), 64*63, 0, api.ErrArg)
	wantUse(t, l, nothing(l), 64*5, 0, api.ErrArg)
	wantUse(t, l, nothing(l), 63*5, 0, api.ErrArg)
}
