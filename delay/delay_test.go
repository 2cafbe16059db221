package delay_test

import (
	"fmt"
	"math"
	"math/rand"
	"slices"
	"testing"

	"escapement/api"
	"escapement/delay"
)

// task is one that has nothing.
func task(period, deadline, bound int) api.Task {
	return api.Task{Period: period, Deadline: deadline, Bound: bound}
}

// keeps is a task with another Local.
func keeps(t api.Task, local int) api.Task {
	t.Local = local
	return t
}

// takes is a task with another Global, so often and for so long.
func takes(t api.Task, global, long, locks int) api.Task {
	t.Global, t.Long, t.Locks = global, long, locks
	return t
}

// part is a partition of these numbers.
func part(period, budget int, tasks ...api.Task) api.Part {
	return api.Part{Period: period, Budget: budget, Tasks: tasks}
}

// parts is a list of partitions.
func parts(l ...api.Part) []api.Part {
	return l
}

// The chapter's partitions.
var (
	partP = part(5, 2, takes(task(10, 10, 4), 1, 2, 1))
	partQ = part(7, 3, keeps(takes(task(20, 12, 3), 1, 1, 2), 2))
	partR = part(4, 1)
)

// wantCheck holds Check against what it should answer. (Nobody here asks for t.Helper, which is slow; what is told names the call.)
func wantCheck(t *testing.T, l []api.Part, errno api.Errno) {
	if e := delay.Check(l); e != errno {
		t.Errorf("Check(%v): error %d, not %d", l, e, errno)
	}
}

// wantWait holds a wait against what it should be.
func wantWait(t *testing.T, l []api.Part, part, task, number int, errno api.Errno) {
	if got, e := delay.Wait(l, part, task); got != number || e != errno {
		t.Errorf("Wait(%v, %d, %d): %d, error %d; not %d, error %d", l, part, task, got, e, number, errno)
	}
}

// wantMore holds what is more of each task against what it should be.
func wantMore(t *testing.T, l []api.Part, part int, numbers []int, errno api.Errno) {
	if got, e := delay.More(l, part); !slices.Equal(got, numbers) || e != errno {
		t.Errorf("More(%v, %d): %v, error %d; not %v, error %d", l, part, got, e, numbers, errno)
	}
}

// wantOf holds a delay against what it should be.
func wantOf(t *testing.T, l []api.Part, part, n, number int, errno api.Errno) {
	if got, e := delay.Of(l, part, n); got != number || e != errno {
		t.Errorf("Of(%v, %d, %d): %d, error %d; not %d, error %d", l, part, n, got, e, number, errno)
	}
}

// answers are all waits, all that is more, and all delays of one partition that must be answered; the delays those of 0 to 64 ticks.
type answers struct {
	waits, more, delays []int
}

// ask is what the calls answer of a partition.
func ask(t *testing.T, l []api.Part, part int) answers {
	var a answers
	must := func(name string, e api.Errno) {
		if e != api.OK {
			t.Fatalf("%s(%v, %d, ..): error %d", name, l, part, e)
		}
	}
	for i := range l[part].Tasks {
		n, e := delay.Wait(l, part, i)
		must("Wait", e)
		a.waits = append(a.waits, n)
	}
	more, e := delay.More(l, part)
	must("More", e)
	a.more = more
	for n := range api.MaxTime + 1 {
		d, e := delay.Of(l, part, n)
		must("Of", e)
		a.delays = append(a.delays, d)
	}
	return a
}

// model is what they should answer, from the chapter's words: tick by tick, and lock by lock.
func model(l []api.Part, part int) answers {
	var uses [api.MaxParts][api.MaxGlobals + 1]bool
	for i, p := range l {
		for _, x := range p.Tasks {
			uses[i][x.Global] = true
		}
	}
	a := answers{delays: make([]int, api.MaxTime+1)}
	for _, x := range l[part].Tasks {
		wait, more, by := 0, 0, x.Local
		if x.Global != 0 {
			for i, p := range l {
				if i != part && uses[i][x.Global] {
					wait += p.Period + p.Period
				}
			}
			for range x.Locks {
				more += wait + x.Long - 1
			}
			by = max(by, wait+x.Long+x.Long-1)
		}
		a.waits, a.more = append(a.waits, wait), append(a.more, more)
		for n := range x.Deadline {
			a.delays[n] = max(a.delays[n], by)
		}
	}
	return a
}

// same tells whether two partitions are answered alike.
func (a answers) same(b answers) bool {
	return slices.Equal(a.waits, b.waits) && slices.Equal(a.more, b.more) && slices.Equal(a.delays, b.delays)
}

// wantModel fails the test unless partitions may be asked, and what they are answered is the model's.
func wantModel(t *testing.T, l []api.Part) {
	wantCheck(t, l, api.OK)
	for part := range l {
		if got, want := ask(t, l, part), model(l, part); !got.same(want) {
			t.Fatalf("%v, %d: %v, not %v", l, part, got, want)
		}
	}
}

// upTo is any number from 1 to n, often one of its edges.
func upTo(random *rand.Rand, n int) int {
	switch random.Intn(4) {
	case 0:
		return 1
	case 1:
		return n
	}
	return 1 + random.Intn(n)
}

// someTask is any task that may be asked in a partition with that budget.
func someTask(random *rand.Rand, budget int) api.Task {
	period := upTo(random, api.MaxTime)
	deadline := upTo(random, period)
	x := task(period, deadline, upTo(random, deadline))
	if random.Intn(2) == 0 {
		x.Local = upTo(random, x.Bound)
	}
	if random.Intn(4) == 0 {
		return x
	}
	long := upTo(random, min(budget, x.Bound))
	return takes(x, upTo(random, api.MaxGlobals), long, upTo(random, x.Bound/long))
}

// somePart is any partition that may be asked.
func somePart(random *rand.Rand) api.Part {
	period := upTo(random, api.MaxTime)
	p := part(period, upTo(random, period))
	for range random.Intn(api.MaxTasks + 1) {
		p.Tasks = append(p.Tasks, someTask(random, p.Budget))
	}
	return p
}

// someParts are so many partitions that may be asked.
func someParts(random *rand.Rand, many int) []api.Part {
	var l []api.Part
	for range many {
		l = append(l, somePart(random))
	}
	return l
}

// The chapter's examples.
func TestExamples(t *testing.T) {
	all, two := parts(partP, partQ, partR), parts(partP, partR)
	wantCheck(t, all, api.OK)
	wantWait(t, all, 0, 0, 14, api.OK)
	wantWait(t, all, 1, 0, 10, api.OK)
	wantWait(t, two, 0, 0, 0, api.OK)
	wantMore(t, all, 0, []int{15}, api.OK)
	wantMore(t, all, 1, []int{20}, api.OK)
	wantMore(t, all, 2, nil, api.OK)
	wantOf(t, all, 1, 11, 11, api.OK)
	wantOf(t, all, 1, 12, 0, api.OK)
	wantOf(t, two, 0, 3, 3, api.OK)
}

// P9.1, P9.2: no partition, told by nil or by an empty list, may be asked, but has none that is there.
func TestNoPart(t *testing.T) {
	for _, l := range [][]api.Part{nil, {}} {
		wantCheck(t, l, api.OK)
		wantNowhere(t, l)
	}
}

// P9.1, P9.2: one partition to four, all alike; each waits for all others, and none for itself.
func TestSeveralParts(t *testing.T) {
	x := takes(task(64, 20, 6), 2, 2, 3)
	for many := 1; many <= api.MaxParts; many++ {
		l := slices.Repeat(parts(part(10, 4, x)), many)
		wantCheck(t, l, api.OK)
		wait := 20 * (many - 1)
		for part := range l {
			wantWait(t, l, part, 0, wait, api.OK)
			wantMore(t, l, part, []int{3 * (wait + 1)}, api.OK)
			wantOf(t, l, part, 19, wait+3, api.OK)
			wantOf(t, l, part, 20, 0, api.OK)
		}
	}
}

// P9.1, P9.2: no task, told by nil or by an empty list, up to four.
func TestSeveralTasks(t *testing.T) {
	for _, none := range [][]api.Task{nil, {}} {
		l := parts(partP, api.Part{Period: 9, Budget: 9, Tasks: none})
		wantCheck(t, l, api.OK)
		wantMore(t, l, 1, nil, api.OK)
		wantWait(t, l, 1, 0, 0, api.ErrRange)
		for _, n := range []int{0, 1, 63, 64, math.MaxInt} {
			wantOf(t, l, 1, n, 0, api.OK)
		}
	}
	tasks := []api.Task{
		keeps(task(30, 30, 9), 7),               // 7 below 30
		takes(task(20, 20, 4), 1, 2, 2),         // waits 10; 13 below 20
		takes(task(64, 10, 5), 3, 5, 1),         // waits 0; 9 below 10
		keeps(takes(task(8, 5, 5), 1, 1, 5), 5), // waits 10; 11 below 5
	}
	l := parts(partP, part(12, 6))
	for i, want := range []struct {
		wait, more int
		delays     []int // of 0, 4, 5, 9, 10, 19, 20, 29, 30
	}{
		{0, 0, []int{7, 7, 7, 7, 7, 7, 7, 7, 0}},
		{10, 22, []int{13, 13, 13, 13, 13, 13, 7, 7, 0}},
		{0, 4, []int{13, 13, 13, 13, 13, 13, 7, 7, 0}},
		{10, 50, []int{13, 13, 13, 13, 13, 13, 7, 7, 0}},
	} {
		l[1].Tasks = tasks[:i+1]
		wantCheck(t, l, api.OK)
		wantWait(t, l, 1, i, want.wait, api.OK)
		wantMore(t, l, 1, []int{0, 22, 4, 50}[:i+1], api.OK)
		for j, n := range []int{0, 4, 5, 9, 10, 19, 20, 29, 30} {
			wantOf(t, l, 1, n, want.delays[j], api.OK)
		}
	}
	// The last two alone: a shorter Deadline is behind no longer one.
	l[1].Tasks = tasks[2:]
	for n, number := range map[int]int{0: 11, 4: 11, 5: 9, 9: 9, 10: 0} {
		wantOf(t, l, 1, n, number, api.OK)
	}
}

// P9.1, P9.2: a Period of 1 and of 64, a Budget of 1 and of the whole Period: what others wait for hangs on the Period alone.
func TestServers(t *testing.T) {
	for period := 1; period <= api.MaxTime; period++ {
		for _, budget := range []int{1, (period + 1) / 2, period} {
			l := parts(part(3, 1, takes(task(9, 9, 1), 4, 1, 1)), part(period, budget, takes(task(9, 9, 1), 4, 1, 1)))
			wantCheck(t, l, api.OK)
			wantWait(t, l, 0, 0, 2*period, api.OK)
			wantMore(t, l, 0, []int{2 * period}, api.OK)
			wantOf(t, l, 0, 8, 2*period+1, api.OK)
			wantWait(t, l, 1, 0, 6, api.OK)
		}
	}
}

// P9.1, P9.2: a Local of 0 to the Bound; which is the delay, unless a wait is greater; what is more does not hang on it.
func TestLocals(t *testing.T) {
	for bound := 1; bound <= api.MaxTime; bound++ {
		for local := range bound + 1 {
			l := parts(part(8, 8, keeps(task(64, 64, bound), local)), partR)
			wantCheck(t, l, api.OK)
			wantWait(t, l, 0, 0, 0, api.OK)
			wantMore(t, l, 0, []int{0}, api.OK)
			wantOf(t, l, 0, 63, local, api.OK)
			wantOf(t, l, 0, 64, 0, api.OK)
			l[0].Tasks[0] = takes(l[0].Tasks[0], 1, 1, 1)
			wantMore(t, l, 0, []int{0}, api.OK)
			wantOf(t, l, 0, 63, max(local, 1), api.OK)
			l[1] = part(7, 1, takes(task(1, 1, 1), 1, 1, 1))
			wantMore(t, l, 0, []int{14}, api.OK)
			wantOf(t, l, 0, 63, max(local, 15), api.OK)
		}
	}
}

// P9.1, P9.2: a Global of 0 to 4: only the same one counts, and 0 is none.
func TestGlobals(t *testing.T) {
	having := func(global int) api.Task {
		if global == 0 {
			return task(10, 10, 3)
		}
		return takes(task(10, 10, 3), global, 1, 3)
	}
	for mine := range api.MaxGlobals + 1 {
		for its := range api.MaxGlobals + 1 {
			l := parts(part(5, 2, having(mine)), part(7, 3, having(its)))
			wantCheck(t, l, api.OK)
			wait, more, of := 0, 0, 0
			if mine != 0 {
				of = 1
			}
			if mine != 0 && mine == its {
				wait, more, of = 14, 42, 15
			}
			wantWait(t, l, 0, 0, wait, api.OK)
			wantMore(t, l, 0, []int{more}, api.OK)
			wantOf(t, l, 0, 9, of, api.OK)
		}
	}
}

// P9.1, P9.2: a Long of 1 and of the Budget, Locks of 1, Long times Locks of the Bound and one beside it: every Long and Locks that a Bound and a Budget let be, and those beside them.
func TestLongAndLocks(t *testing.T) {
	other := part(6, 6, takes(task(6, 6, 6), 1, 6, 1))
	for _, bound := range []int{1, 2, 3, 6, 12, 13, 30, 63, 64} {
		for _, budget := range []int{1, 2, 5, 6, 12, 63, 64} {
			for long := 1; long <= api.MaxTime; long++ {
				for locks := 1; locks <= api.MaxTime; locks++ {
					l := parts(part(64, budget, takes(task(64, 64, bound), 1, long, locks)), other)
					if long > budget || long*locks > bound {
						wantCheck(t, l, api.ErrArg)
						wantMore(t, l, 0, nil, api.ErrArg)
						continue
					}
					wantCheck(t, l, api.OK)
					wantWait(t, l, 0, 0, 12, api.OK)
					wantMore(t, l, 0, []int{locks * (11 + long)}, api.OK)
					wantOf(t, l, 0, 63, 11+2*long, api.OK)
				}
			}
		}
	}
}

// P9.1, P9.2: several partitions with the same Global are all waited for, each once, with however many of its tasks.
func TestSharedByMany(t *testing.T) {
	one, two := takes(task(9, 9, 4), 1, 2, 2), takes(task(7, 7, 1), 2, 1, 1)
	l := parts(part(3, 2, one, two), part(10, 2, one, one, one, one), part(20, 2, two, one, two, one), part(40, 2, two, two, task(1, 1, 1)))
	for i, row := range []struct {
		waits, more []int
		of6, of8    int
	}{
		{[]int{60, 120}, []int{122, 120}, 121, 63},
		{[]int{46, 46, 46, 46}, []int{94, 94, 94, 94}, 49, 49},
		{[]int{86, 26, 86, 26}, []int{86, 54, 86, 54}, 87, 29},
		{[]int{46, 46, 0}, []int{46, 46, 0}, 47, 0},
	} {
		for j, wait := range row.waits {
			wantWait(t, l, i, j, wait, api.OK)
		}
		wantMore(t, l, i, row.more, api.OK)
		wantOf(t, l, i, 6, row.of6, api.OK)
		wantOf(t, l, i, 8, row.of8, api.OK)
		wantOf(t, l, i, 9, 0, api.OK)
	}
}

// P9.1, P9.2: two tasks of one partition with the same Global do not wait for each other.
func TestSharedWithin(t *testing.T) {
	l := parts(part(8, 4, takes(task(9, 9, 4), 1, 4, 1), takes(task(9, 6, 2), 1, 1, 2)), partR)
	wantWait(t, l, 0, 0, 0, api.OK)
	wantWait(t, l, 0, 1, 0, api.OK)
	wantMore(t, l, 0, []int{3, 0}, api.OK)
	wantOf(t, l, 0, 8, 7, api.OK)
}

// P9.1, P9.2: the greatest wait, what is most, and the greatest delay that there are.
func TestMost(t *testing.T) {
	often, long := takes(task(64, 64, 64), 4, 1, 64), takes(task(64, 64, 64), 4, 64, 1)
	l := slices.Repeat(parts(part(64, 64, often, long)), api.MaxParts)
	for part := range l {
		wantWait(t, l, part, 0, 384, api.OK)
		wantMore(t, l, part, []int{64 * 384, 447}, api.OK)
		wantOf(t, l, part, 63, 511, api.OK)
		wantOf(t, l, part, 64, 0, api.OK)
	}
}

// P9.2: a task counts in t ticks if its Deadline is above t: every Deadline, each t beside it.
func TestOfEveryDeadline(t *testing.T) {
	for deadline := 1; deadline <= api.MaxTime; deadline++ {
		l := parts(part(5, 5, keeps(task(api.MaxTime, deadline, 1), 1)))
		for n := range 2 * api.MaxTime {
			number := 0
			if n < deadline {
				number = 1
			}
			wantOf(t, l, 0, n, number, api.OK)
		}
	}
}

// P9.1, P9.2: which local resources a task uses, how often it is released, and how long its own partition's period is count for nothing.
func TestNothingElseCounts(t *testing.T) {
	random := rand.New(rand.NewSource(91))
	for range 300 {
		l := someParts(random, 1+random.Intn(api.MaxParts))
		part := random.Intn(len(l))
		was := ask(t, l, part)
		for i := range l {
			for j := range l[i].Tasks {
				x := &l[i].Tasks[j]
				x.Locals, x.Period = random.Intn(600)-300, x.Deadline+random.Intn(api.MaxTime-x.Deadline+1)
			}
		}
		l[part].Period = api.MaxTime
		wantCheck(t, l, api.OK)
		if now := ask(t, l, part); !now.same(was) {
			t.Fatalf("%v, %d: %v, not %v", l, part, now, was)
		}
	}
}

// P9.1, P9.2: partitions of all sizes against the model.
func TestSomeParts(t *testing.T) {
	random := rand.New(rand.NewSource(92))
	for i := range 3000 {
		wantModel(t, someParts(random, i%(api.MaxParts+1)))
	}
}

// P9.1, P9.2: every way of three partitions to share two resources, by two tasks each.
func TestEverySharing(t *testing.T) {
	const ways = 9 // of two tasks, each with one of 0, 1 and 2
	tasks := func(way int) []api.Task {
		l := []api.Task{task(20, 20, 6), task(10, 10, 4)}
		for i, global := range []int{way % 3, way / 3} {
			if global != 0 {
				l[i] = takes(l[i], global, 2, 1+i)
			}
		}
		return l
	}
	for way := range ways * ways * ways {
		wantModel(t, parts(part(5, 2, tasks(way%ways)...), part(11, 3, tasks(way/ways%ways)...), part(17, 2, tasks(way/ways/ways)...)))
	}
}

// noLess tells whether each number is no less than what it was.
func noLess(now, was []int) bool {
	for i := range was {
		if now[i] < was[i] {
			return false
		}
	}
	return true
}

// noLess tells whether nothing that is answered is less than what it was, of as many tasks.
func (a answers) noLess(was answers) bool {
	return noLess(a.waits, was.waits) && noLess(a.more, was.more) && noLess(a.delays, was.delays)
}

// shares tells whether a partition has a Global that some of the others have.
func shares(p api.Part, l []api.Part) bool {
	for _, x := range p.Tasks {
		for _, o := range l {
			if x.Global != 0 && slices.ContainsFunc(o.Tasks, func(y api.Task) bool { return y.Global == x.Global }) {
				return true
			}
		}
	}
	return false
}

// P9.4: a partition more, at the end or elsewhere, makes nothing of the others less; one that shares nothing leaves all as it is.
func TestPartMore(t *testing.T) {
	random := rand.New(rand.NewSource(94))
	apart, greater := 0, 0
	for i := range 3000 {
		l, p := someParts(random, 1+i%(api.MaxParts-1)), somePart(random)
		at, part := random.Intn(len(l)+1), random.Intn(len(l))
		if i%2 == 0 {
			at = len(l)
		}
		place := part
		if part >= at {
			place++
		}
		was, now := ask(t, l, part), ask(t, slices.Insert(slices.Clone(l), at, p), place)
		if !now.noLess(was) {
			t.Fatalf("%v, %d: %v; with one more, %v: %v", l, part, was, p, now)
		}
		if !now.same(was) {
			greater++
		}
		if shares(p, l) {
			continue
		}
		if apart++; !now.same(was) {
			t.Fatalf("%v, %d: %v; with %v, that shares nothing: %v", l, part, was, p, now)
		}
	}
	if apart < 100 || greater < 100 {
		t.Errorf("%d partitions shared nothing; %d times there was more", apart, greater)
	}
}

// P9.4: one that shares makes a wait greater by two of its periods, what is more by so much for each lock, and the delay by so much.
func TestPartMoreShares(t *testing.T) {
	l := parts(part(5, 4, takes(task(20, 20, 12), 3, 4, 3)))
	wait := 0
	for _, period := range []int{1, 64, 13} {
		l = append(l, part(period, 1, takes(task(1, 1, 1), 3, 1, 1)))
		wait += 2 * period
		wantWait(t, l, 0, 0, wait, api.OK)
		wantMore(t, l, 0, []int{3*wait + 9}, api.OK)
		wantOf(t, l, 0, 19, wait+7, api.OK)
	}
}

// P9.5: the delay of more ticks is no greater, and from the greatest Deadline on there is none.
func TestOfMoreTicks(t *testing.T) {
	random := rand.New(rand.NewSource(95))
	for i := range 2000 {
		l := someParts(random, 1+i%api.MaxParts)
		for part := range l {
			greatest := 0
			for _, x := range l[part].Tasks {
				greatest = max(greatest, x.Deadline)
			}
			delays := ask(t, l, part).delays
			for n := 1; n < len(delays); n++ {
				if delays[n] > delays[n-1] {
					t.Fatalf("Of(%v, %d, ..): %d of %d ticks, but %d of one fewer", l, part, delays[n], n, delays[n-1])
				}
			}
			for _, n := range []int{greatest, greatest + 1, api.MaxTime, api.MaxTime + 1, 1 << 20, 1 << 32, api.MaxTick + 1, math.MaxInt - 1, math.MaxInt} {
				wantOf(t, l, part, n, 0, api.OK)
			}
		}
	}
}

// R2: what is answered hangs on what is handed in alone: calls in between, and what becomes of the lists, count for nothing.
func TestNothingKept(t *testing.T) {
	told := func() string {
		l := parts(partP, partQ, partR)
		wait, waitE := delay.Wait(l, 0, 0)
		more, moreE := delay.More(l, 1)
		of, ofE := delay.Of(l, 1, 11)
		l[0], l[1] = partR, partR
		return fmt.Sprint(wait, waitE, more, moreE, of, ofE)
	}
	for _, l := range [][]api.Part{nil, parts(partR), parts(partQ, partQ, partQ, partQ), make([]api.Part, 5)} {
		for _, n := range []int{-1, 0, 1, 64} {
			delay.Check(l)
			delay.Wait(l, n, n)
			delay.More(l, n)
			delay.Of(l, n, n)
			if got := told(); got != "14 0 [20] 0 11 0" {
				t.Errorf("behind %v, %d: %s", l, n, got)
			}
		}
	}
}
