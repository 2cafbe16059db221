package demand_test

import (
	"fmt"
	"math"
	"slices"
	"testing"

	"escapement/api"
	"escapement/demand"
)

// far are numbers that are too small, or too great, wherever they stand.
var far = []int{math.MinInt, math.MinInt + 1, -(1 << 40), -(1 << 32), -(1 << 32) + 1, -maxTicks, -maxMore, -64, -5, -2, -1, maxTicks + 1, maxTicks + 2, 1 << 32, 1<<32 + 1, api.MaxTick, api.MaxTick + 1, math.MaxInt - 1, math.MaxInt}

// counts are some of ticks, which may be asked for, or not.
var counts = append([]int{0, 1, 4, 5, 20, 60, maxTicks}, far...)

// wantWrong fails the test unless all calls that are told what is more answer ErrArg, whatever ticks they are asked of.
func wantWrong(t *testing.T, l []api.Task, more []int) {
	wantCheck(t, l, more, api.ErrArg)
	for _, n := range counts {
		wantOf(t, l, more, n, 0, api.ErrArg)
		wantUse(t, l, more, n, 0, api.ErrArg)
	}
}

// wantWrongTask fails the test unless a task may not be asked, alone and wherever it stands among others.
func wantWrongTask(t *testing.T, bad api.Task) {
	for many := range api.MaxTasks {
		others := slices.Repeat([]api.Task{taskA, taskB}, 2)[:many]
		for i := range many + 1 {
			l := slices.Insert(slices.Clone(others), i, bad)
			wantWrong(t, l, nothing(l))
			for _, period := range append([]int{0, 1, 5, 64, 65}, far...) {
				wantHyper(t, l, period, 0, api.ErrArg)
			}
		}
	}
}

// P8.1, P8.2: a Period of 0, of 65, and others that may not be.
func TestNoPeriod(t *testing.T) {
	for _, period := range append([]int{0, 65, 66, 128}, far...) {
		for _, deadline := range []int{1, 64, period} {
			for _, bound := range []int{1, deadline, period} {
				wantWrongTask(t, task(period, deadline, bound))
			}
		}
	}
}

// P8.1, P8.2: a Deadline of 0, of one more than the Period, and others that may not be.
func TestNoDeadline(t *testing.T) {
	for _, period := range []int{1, 2, 20, 63, 64} {
		for _, deadline := range append([]int{0, period + 1, period + 2, 65}, far...) {
			for _, bound := range []int{1, period, deadline} {
				wantWrongTask(t, task(period, deadline, bound))
			}
		}
	}
}

// P8.1, P8.2: a Bound of 0, of one more than the Deadline, and others that may not be.
func TestNoBound(t *testing.T) {
	for _, period := range []int{1, 2, 20, 64} {
		for _, deadline := range []int{1, (period + 1) / 2, period} {
			for _, bound := range append([]int{0, deadline + 1, deadline + 2, 65}, far...) {
				wantWrongTask(t, task(period, deadline, bound))
			}
		}
	}
}

// P8.1, P8.2: five tasks, and more; with as many numbers as there are, or may be.
func TestTooManyTasks(t *testing.T) {
	for _, many := range []int{5, 6, 8, 100} {
		l := slices.Repeat([]api.Task{task(1, 1, 1)}, many)
		for _, numbers := range []int{0, 1, 4, many - 1, many, many + 1} {
			wantWrong(t, l, make([]int, numbers))
		}
		for _, period := range append([]int{0, 1, 64, 65}, far...) {
			wantHyper(t, l, period, 0, api.ErrArg)
		}
	}
}

// P8.1, P8.2: one number fewer than there are tasks, and one more; Hyper, which is told none, answers.
func TestOtherCount(t *testing.T) {
	for many := range api.MaxTasks + 1 {
		l := slices.Repeat([]api.Task{task(20, 12, 5)}, many)
		for numbers := range 10 {
			if numbers == many {
				wantCheck(t, l, make([]int, numbers), api.OK)
				continue
			}
			wantWrong(t, l, make([]int, numbers))
		}
		if many > 0 {
			wantWrong(t, l, nil)
			wantHyper(t, l, 1, 20, api.OK)
		}
	}
}

// P8.1, P8.2: what is more may not be -1, nor 4097, nor others beyond these, wherever it stands.
func TestNoMore(t *testing.T) {
	for many := 1; many <= api.MaxTasks; many++ {
		l := slices.Repeat([]api.Task{task(20, 12, 5)}, many)
		for _, bad := range append([]int{maxMore + 1, maxMore + 2, 2 * maxMore}, far...) {
			for i := range many {
				more := slices.Repeat([]int{7}, many)
				more[i] = bad
				wantWrong(t, l, more)
			}
		}
		for _, good := range []int{0, 1, maxMore - 1, maxMore} {
			wantCheck(t, l, slices.Repeat([]int{good}, many), api.OK)
		}
	}
}

// P8.1, P8.2: ticks and periods that may not be, of tasks that may be asked, and of none.
func TestNoTicks(t *testing.T) {
	for many := range api.MaxTasks + 1 {
		l := slices.Repeat([]api.Task{task(1, 1, 1)}, many)
		for _, n := range far {
			wantOf(t, l, nothing(l), n, 0, api.ErrArg)
			wantUse(t, l, nothing(l), n, 0, api.ErrArg)
			wantHyper(t, l, n, 0, api.ErrArg)
		}
		for _, n := range []int{0, -1, maxTicks + 1, 2 * maxTicks} {
			wantUse(t, l, nothing(l), n, 0, api.ErrArg)
		}
		for _, period := range []int{0, 65, 66, 128, maxMore, maxTicks} {
			wantHyper(t, l, period, 0, api.ErrArg)
		}
		wantOf(t, l, nothing(l), 0, 0, api.OK)
		wantOf(t, l, nothing(l), maxTicks, many*maxTicks, api.OK)
		wantUse(t, l, nothing(l), maxTicks, many*maxTicks, api.OK)
		wantHyper(t, l, 64, 64, api.OK)
	}
}

// P8.2: a period that may not be is told ahead of a hyperperiod that is too great.
func TestArgAheadOfLimit(t *testing.T) {
	for _, period := range append([]int{0, 65}, far...) {
		wantHyper(t, withPeriods(64, 63, 61, 59), period, 0, api.ErrArg)
	}
}

// P8.3: what is handed in is left as it was, its spare room too, whether it may be asked or not.
func TestOnlyRead(t *testing.T) {
	spare := task(77, 78, 79)
	for _, first := range []api.Task{taskA, task(64, 63, 62), task(0, 0, 0)} {
		for many := range api.MaxTasks + 1 {
			tasks := append([]api.Task{first, taskB, task(61, 1, 1), task(20, 20, 20)}, spare, spare)
			numbers := []int{3, 0, maxMore, 4, -7, -8, -9}
			tasksWere, numbersWere := slices.Clone(tasks), slices.Clone(numbers)
			for _, with := range []int{0, many, many + 1} {
				demand.Check(tasks[:many], numbers[:with])
				for _, n := range []int{0, 10, 60, 1220, -1} {
					demand.Of(tasks[:many], numbers[:with], n)
					demand.Use(tasks[:many], numbers[:with], n)
					demand.Hyper(tasks[:many], n)
				}
			}
			if !slices.Equal(tasks, tasksWere) || !slices.Equal(numbers, numbersWere) {
				t.Errorf("%d of %v, %v: now %v, %v", many, tasksWere, numbersWere, tasks, numbers)
			}
		}
	}
}

// R2: what is answered hangs on what is handed in alone: calls in between, and what becomes of the lists, count for nothing.
func TestNothingKept(t *testing.T) {
	answers := func() string {
		l, more := []api.Task{taskA, taskB}, []int{1, 2}
		of, ofE := demand.Of(l, more, 14)
		hyper, hyperE := demand.Hyper(l, 4)
		use, useE := demand.Use(l, more, 20)
		l[0], more[1] = task(1, 1, 1), maxMore
		return fmt.Sprint(of, ofE, hyper, hyperE, use, useE)
	}
	for _, between := range []int{-1, 0, 1, 14, 20, 64, maxTicks} {
		demand.Of(withPeriods(1, 2, 64), []int{5, 6, maxMore}, between)
		demand.Hyper(withPeriods(64, 63, 61), between)
		demand.Use(withPeriods(1, 1, 1, 1), []int{5, 6, 7, maxMore}, between)
		if got := answers(); got != "14 0 20 0 22 0" {
			t.Errorf("behind %d: %s", between, got)
		}
	}
}
