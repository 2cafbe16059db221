package delay_test

import (
	"math"
	"math/bits"
	"slices"
	"testing"

	"escapement/api"
	"escapement/delay"
)

// far are numbers that are too small, or too great, wherever they stand (but for ticks, which may be any from 0 on).
var far = []int{math.MinInt, math.MinInt + 1, -(1 << 40), -(1 << 32), -(1 << 32) + 1, -64, -5, -2, -1, 65, 66, 128, 4096, 1 << 32, 1<<32 + 1, api.MaxTick + 1, math.MaxInt - 1, math.MaxInt}

// wantWrong fails the test unless partitions may not be asked, whatever is asked of them.
func wantWrong(t *testing.T, l []api.Part) {
	wantCheck(t, l, api.ErrArg)
	for _, part := range []int{math.MinInt, -1, 0, 1, len(l) - 1, len(l), math.MaxInt} {
		wantMore(t, l, part, nil, api.ErrArg)
		for _, n := range []int{math.MinInt, -1, 0, 3, math.MaxInt} {
			wantWait(t, l, part, n, 0, api.ErrArg)
			wantOf(t, l, part, n, 0, api.ErrArg)
		}
	}
}

// wantWrongPart fails the test unless a partition may not be asked, alone and wherever it stands among others.
func wantWrongPart(t *testing.T, bad api.Part) {
	for many := range api.MaxParts {
		others := parts(partP, partR, partQ)[:many]
		for i := range many + 1 {
			wantWrong(t, slices.Insert(slices.Clone(others), i, bad))
		}
	}
}

// wantWrongTask fails the test unless a task may not be asked in a partition with that budget, wherever it stands among others.
func wantWrongTask(t *testing.T, budget int, bad api.Task) {
	for many := range api.MaxTasks {
		others := slices.Repeat([]api.Task{task(20, 12, 5), takes(task(10, 10, 1), 2, 1, 1)}, 2)[:many]
		for i := range many + 1 {
			p := part(api.MaxTime, budget, slices.Insert(slices.Clone(others), i, bad)...)
			wantWrong(t, parts(p))
			wantCheck(t, parts(partP, p, partR), api.ErrArg)
			wantCheck(t, parts(partP, partR, partQ, p), api.ErrArg)
		}
	}
}

// wantNowhere fails the test unless partitions that may be asked answer ErrRange wherever there is none, or no task.
func wantNowhere(t *testing.T, l []api.Part) {
	for _, part := range append([]int{-len(l), len(l), len(l) + 1}, far...) {
		if 0 <= part && part < len(l) {
			continue // -0 is a partition
		}
		wantMore(t, l, part, nil, api.ErrRange)
		for _, n := range []int{math.MinInt, -1, 0, 1, 63, 64, math.MaxInt} {
			wantWait(t, l, part, n, 0, api.ErrRange)
			wantOf(t, l, part, n, 0, api.ErrRange)
		}
	}
	for part := range l {
		many := len(l[part].Tasks)
		for _, task := range append([]int{many, many + 1, api.MaxTasks}, far...) {
			wantWait(t, l, part, task, 0, api.ErrRange)
		}
	}
}

// P9.1, P9.2: five partitions, and more; which are told ahead of a partition that there is not, and of ticks that may not be.
func TestTooManyParts(t *testing.T) {
	for _, many := range []int{5, 6, 8, 100} {
		for _, p := range parts(partP, partR) {
			wantWrong(t, slices.Repeat(parts(p), many))
		}
	}
}

// P9.1, P9.2: a Period of 0, of 65, and others that may not be.
func TestNoPeriod(t *testing.T) {
	for _, period := range append([]int{0}, far...) {
		for _, budget := range []int{math.MinInt, -1, 0, 1, 64, period - 1, period} {
			wantWrongPart(t, part(period, budget))
			wantWrongPart(t, part(period, budget, task(1, 1, 1)))
		}
	}
}

// P9.1, P9.2: a Budget of 0, of one more than the Period, and others that may not be.
func TestNoBudget(t *testing.T) {
	for _, period := range []int{1, 2, 5, 63, 64} {
		for _, budget := range append([]int{0, period + 1, period + 2}, far...) {
			wantWrongPart(t, part(period, budget))
			wantWrongPart(t, part(period, budget, task(1, 1, 1)))
		}
	}
}

// P9.1, P9.2: five tasks, and more.
func TestTooManyTasks(t *testing.T) {
	for _, many := range []int{5, 6, 8, 100} {
		wantWrongPart(t, part(10, 5, slices.Repeat([]api.Task{task(1, 1, 1)}, many)...))
	}
}

// P9.1, P9.2: tasks that may not be asked (chapter 8).
func TestNoTask(t *testing.T) {
	for _, bad := range append([]int{0}, far...) {
		for _, x := range []api.Task{task(bad, 1, 1), task(bad, bad, 1), task(bad, bad, bad), task(20, bad, 1), task(20, bad, bad), task(20, 12, bad)} {
			wantWrongTask(t, 5, x)
		}
	}
	for _, period := range []int{1, 2, 20, 63} {
		wantWrongTask(t, 5, task(period, period+1, 1))
		for _, deadline := range []int{1, (period + 1) / 2, period} {
			wantWrongTask(t, 5, task(period, deadline, deadline+1))
		}
	}
}

// P9.1, P9.2: a Local of -1, of one more than the Bound, and others that may not be, with a Global and without; those beside them may.
func TestNoLocal(t *testing.T) {
	for _, bound := range []int{1, 2, 20, 63, 64} {
		for _, x := range []api.Task{task(64, 64, bound), takes(task(64, 64, bound), 1, 1, 1)} {
			for _, local := range append([]int{-bound, bound + 1, bound + 2}, far...) {
				wantWrongTask(t, 5, keeps(x, local))
			}
			wantCheck(t, parts(part(64, 5, keeps(x, 0))), api.OK)
			wantCheck(t, parts(part(64, 5, keeps(x, bound))), api.OK)
		}
	}
}

// P9.1, P9.2: a Global of -1, of 5, and others that may not be, with what it would have and without; those beside them may.
func TestNoGlobal(t *testing.T) {
	for _, global := range append([]int{5, 6, 8}, far...) {
		wantWrongTask(t, 5, takes(task(20, 12, 6), global, 0, 0))
		wantWrongTask(t, 5, takes(task(20, 12, 6), global, 1, 1))
		wantWrongTask(t, 5, takes(task(20, 12, 6), global, 2, 3))
	}
	wantCheck(t, parts(part(64, 5, takes(task(20, 12, 6), 0, 0, 0))), api.OK)
	for global := 1; global <= api.MaxGlobals; global++ {
		wantCheck(t, parts(part(64, 5, takes(task(20, 12, 6), global, 2, 3))), api.OK)
	}
}

// P9.1, P9.2: a Global of 0 with a Long, with Locks, with both.
func TestNothingOfNone(t *testing.T) {
	for _, n := range append([]int{1, 2, 3}, far...) {
		wantWrongTask(t, 5, takes(task(20, 12, 6), 0, n, 0))
		wantWrongTask(t, 5, takes(task(20, 12, 6), 0, 0, n))
		wantWrongTask(t, 5, takes(task(20, 12, 6), 0, n, 1))
		wantWrongTask(t, 5, takes(task(20, 12, 6), 0, 1, n))
		wantWrongTask(t, 5, takes(task(20, 12, 6), 0, n, n))
		wantWrongTask(t, 5, takes(task(20, 12, 6), 0, n, -n))
	}
}

// P9.1, P9.2: a Long of 0, of one more than the Budget, and others that may not be, though the Bound would let it; the Budget itself may.
func TestNoLong(t *testing.T) {
	for _, budget := range []int{1, 2, 5, 63} {
		for _, long := range append([]int{0, budget + 1, budget + 2, 64}, far...) {
			for _, locks := range []int{0, 1, 2, 64, -1} {
				wantWrongTask(t, budget, takes(task(64, 64, 64), 1, long, locks))
			}
		}
		wantCheck(t, parts(part(64, budget, takes(task(64, 64, 64), 1, budget, 1))), api.OK)
	}
}

// P9.1, P9.2: a Long that one budget lets be may be too great for another partition's.
func TestLongByItsOwnBudget(t *testing.T) {
	x := takes(task(20, 20, 8), 1, 4, 2)
	wantCheck(t, parts(part(9, 4, x), part(9, 5, x)), api.OK)
	wantWrong(t, parts(part(9, 3, x), part(9, 5, x)))
	wantWrong(t, parts(part(9, 5, x), part(9, 3, x)))
}

// P9.1, P9.2: Locks of 0, Long times Locks of one more than the Bound, and others that may not be.
func TestNoLocks(t *testing.T) {
	for _, row := range []struct{ bound, long, most int }{
		{1, 1, 1}, {4, 1, 4}, {4, 2, 2}, {4, 3, 1}, {4, 4, 1}, {5, 2, 2}, {13, 3, 4}, {63, 9, 7}, {64, 1, 64}, {64, 64, 1}, {64, 33, 1}, {64, 32, 2},
	} {
		for _, locks := range append([]int{0, row.most + 1, row.most + 2}, far...) {
			wantWrongTask(t, 64, takes(task(64, 64, row.bound), 1, row.long, locks))
		}
		for _, locks := range []int{1, row.most} {
			wantCheck(t, parts(part(64, 64, takes(task(64, 64, row.bound), 1, row.long, locks))), api.OK)
		}
	}
	// A Long above the Bound lets no Locks be.
	for _, locks := range []int{0, 1, 2, -1} {
		wantWrongTask(t, 64, takes(task(64, 64, 4), 1, 5, locks))
	}
}

// P9.1, P9.2: Locks so great that the product is no int: as one that wraps round it would be 0, or small, or less than 0.
func TestLocksThatWrap(t *testing.T) {
	for long := 2; long <= api.MaxTime; long++ {
		for times := 1; times < long; times++ {
			// With so many Locks, or a few more, the product wraps round so many times.
			least, _ := bits.Div64(uint64(times), 0, uint64(long))
			for more := range uint64(4) {
				if locks := least + more; locks <= math.MaxInt {
					wantCheck(t, parts(part(64, 64, takes(task(64, 64, 64), 1, long, int(locks)))), api.ErrArg)
				}
			}
		}
	}
	for _, row := range []struct{ long, locks, product int }{
		{4, 1 << 62, 0}, {2, math.MaxInt, -2}, {3, 6148914691236517206, 2}, {64, 1 << 58, 0}, {64, 1<<58 + 1, 64}, {8, 1<<61 + 1, 8}, {5, 3689348814741910324, 4},
	} {
		if long := row.long; long*row.locks != row.product {
			t.Errorf("%d times %d wraps round to %d, not %d", row.long, row.locks, long*row.locks, row.product)
		}
		wantWrongTask(t, 64, takes(task(64, 64, 64), 1, row.long, row.locks))
	}
}

// P9.1: all small tasks, those that may not be asked among them, against the chapter's words.
func TestCheckSmall(t *testing.T) {
	for bound := 1; bound <= 3; bound++ {
		for budget := 1; budget <= 3; budget++ {
			for i := range 7 * 8 * 7 * 7 {
				local, global, long, locks := i%7-1, i/7%8-1, i/56%7-1, i/392-1
				errno := api.ErrArg
				none, some := long == 0 && locks == 0, 1 <= long && long <= budget && 1 <= locks && long*locks <= bound
				if 0 <= local && local <= bound && (global == 0 && none || 1 <= global && global <= 4 && some) {
					errno = api.OK
				}
				wantCheck(t, parts(part(4, budget, keeps(takes(task(9, 5, bound), global, long, locks), local))), errno)
			}
		}
	}
}

// P9.1, P9.2: a partition of -1 and of as many as there are, a task of -1 and of as many as there are, the greatest and the least int.
func TestNowhere(t *testing.T) {
	all := parts(partP, partQ, partR, part(9, 9, task(1, 1, 1), task(2, 2, 2), task(3, 3, 3), task(4, 4, 4)))
	for many := range len(all) + 1 {
		wantNowhere(t, all[:many])
	}
}

// P9.2: ticks of -1, and of others below 0, of partitions that there are; a partition that there is not is told ahead of them.
func TestNoTicks(t *testing.T) {
	l := parts(partP, partQ, partR)
	for _, n := range far {
		if n < 0 {
			for part := range l {
				wantOf(t, l, part, n, 0, api.ErrArg)
			}
			wantOf(t, l, -1, n, 0, api.ErrRange)
			wantOf(t, l, 3, n, 0, api.ErrRange)
		} else {
			for part := range l {
				wantOf(t, l, part, n, 0, api.OK)
			}
		}
	}
	wantOf(t, l, 0, 0, 17, api.OK)
}

// P9.3: what is handed in is left as it was, its spare room too, whether it may be asked or not.
func TestOnlyRead(t *testing.T) {
	list := func(first api.Task) []api.Part {
		tasks := func() []api.Task {
			return append(make([]api.Task, 0, 8), first, takes(task(20, 20, 4), 2, 1, 4), task(71, 72, 73))[:2]
		}
		spare := part(77, 78, task(79, 80, 81))
		return append(make([]api.Part, 0, 8), part(5, 2, tasks()...), part(7, 3, tasks()...), partR, spare, spare)[:3]
	}
	whole := func(l []api.Part) (servers [][2]int, tasks [][]api.Task) {
		for _, p := range l[:cap(l)] {
			servers = append(servers, [2]int{p.Period, p.Budget})
			tasks = append(tasks, slices.Clone(p.Tasks[:cap(p.Tasks)]))
		}
		return servers, tasks
	}
	for _, first := range []api.Task{takes(task(10, 10, 4), 1, 2, 1), takes(task(10, 10, 4), 1, 2, 3), task(0, 0, 0)} {
		l := list(first)
		servers, tasks := whole(l)
		delay.Check(l)
		for part := -1; part <= len(l); part++ {
			for _, n := range []int{-1, 0, 1, 9, 64} {
				delay.Wait(l, part, n)
				delay.Of(l, part, n)
			}
			if more, _ := delay.More(l, part); len(more) > 0 {
				clear(more[:cap(more)])
			}
		}
		nowServers, nowTasks := whole(l)
		if !slices.Equal(nowServers, servers) || !slices.EqualFunc(nowTasks, tasks, slices.Equal) {
			t.Errorf("%v, %v: now %v, %v", servers, tasks, nowServers, nowTasks)
		}
	}
}

// P9.3: what More answers is new memory: what becomes of it is seen nowhere.
func TestMoreIsNew(t *testing.T) {
	l := parts(part(5, 4, takes(task(10, 10, 4), 1, 4, 1), takes(task(9, 9, 2), 1, 2, 1)), partQ)
	first, _ := delay.More(l, 0)
	second, _ := delay.More(l, 0)
	first[0], first[1] = -1, -2
	first = append(first, -3)
	if !slices.Equal(second, []int{17, 15}) {
		t.Errorf("what was answered is %v now", second)
	}
	wantMore(t, l, 0, []int{17, 15}, api.OK)
	second[1] = 7
	wantMore(t, l, 0, []int{17, 15}, api.OK)
	if first[0] != -1 || first[1] != -2 || first[2] != -3 {
		t.Errorf("what was answered first is %v now", first)
	}
}
