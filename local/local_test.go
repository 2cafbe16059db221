package local_test

import (
	"fmt"
	"math"
	"math/rand"
	"slices"
	"testing"

	"escapement/api"
	"escapement/local"
)

// The chapter's examples.
func TestExamples(t *testing.T) {
	x := task(20, 12, 2)
	l := parts(part(5, 2, x))
	wantSlack(t, l, 0, 11, 2, api.OK)
	wantSlack(t, l, 0, 12, 1, api.OK)
	wantTest(t, l, 0, 0, api.OK)
	x.Bound = 4
	wantTest(t, parts(part(5, 2, x)), 0, 12, api.ErrRefused)
	wantTest(t, parts(part(5, 2, x, task(5, 5, 2))), 0, 0, api.ErrRefused)
}

// P10.1, P10.2: a partition without tasks, told by nil or by an empty list, passes, whatever its server and the others have; its slack is the supply.
func TestNoTasks(t *testing.T) {
	busy := part(64, 1, takes(task(64, 64, 64), 1, 1, 64), task(63, 63, 63), task(61, 61, 61), task(59, 59, 59))
	for _, none := range [][]api.Task{nil, {}} {
		empty := api.Part{Period: 5, Budget: 2, Tasks: none}
		for part, l := range map[int][]api.Part{0: {empty}, 1: {busy, empty}, 2: {busy, busy, empty, busy}} {
			wantTest(t, l, part, 0, api.OK)
			for n, number := range []int{0, 0, 0, 0, 0, 0, 0, 1, 2, 2, 2, 2, 3, 4, 4} {
				wantSlack(t, l, part, n, number, api.OK)
			}
			wantSlack(t, l, part, maxTicks, 419428, api.OK)
		}
	}
	for period := 1; period <= api.MaxTime; period++ {
		wantTest(t, parts(part(period, 1)), 0, 0, api.OK)
		wantTest(t, parts(part(period, period)), 0, 0, api.OK)
	}
}

// P10.1, P10.2: four tasks; some that keep to their deadlines just so, and with one tick more of any do not.
func TestFourTasks(t *testing.T) {
	l := parts(part(5, 4, task(20, 10, 1), task(20, 12, 2), task(20, 15, 1), keeps(task(20, 16, 1), 1)))
	for n, number := range map[int]int{0: -1, 1: -1, 2: -1, 3: 0, 9: 5, 10: 5, 11: 6, 12: 4, 13: 5, 14: 6, 15: 6, 16: 7, 29: 17, 30: 17, 36: 18} {
		wantSlack(t, l, 0, n, number, api.OK)
	}
	wantTest(t, l, 0, 0, api.OK)
	tight := []api.Task{task(20, 10, 7), task(20, 12, 1), task(20, 15, 3), task(20, 16, 1)}
	wantTest(t, parts(part(5, 4, tight...)), 0, 0, api.OK)
	for i, x := range tight {
		l := parts(part(5, 4, slices.Clone(tight)...))
		wantSlack(t, l, 0, x.Deadline, 0, api.OK)
		l[0].Tasks[i].Bound++
		wantSlack(t, l, 0, x.Deadline, -1, api.OK)
		wantTest(t, l, 0, x.Deadline, api.ErrRefused)
	}
}

// P10.1: t of 0: nothing is given, nor asked for, and the longest delay is left; t of 2^20, and one beside it.
func TestSlackEdges(t *testing.T) {
	l := parts(part(5, 2, task(20, 12, 2)))
	wantSlack(t, l, 0, 0, 0, api.OK)
	// 1048576 ticks are 52429 jobs; up to the Deadline of the last one there are 4 ticks.
	wantSlack(t, l, 0, maxTicks, 419428-2*52429, api.OK)
	wantSlack(t, l, 0, maxTicks-4, 419427-2*52429, api.OK)
	wantSlack(t, l, 0, maxTicks-5, 419426-2*52428, api.OK)
	l = parts(part(5, 2, keeps(task(20, 12, 3), 3), keeps(task(64, 64, 7), 2)))
	wantSlack(t, l, 0, 0, -3, api.OK)
	wantSlack(t, l, 0, maxTicks, 419428-3*52429-7*16384, api.OK)
	l = parts(part(1, 1, task(1, 1, 1)))
	for _, n := range []int{0, 1, 2, 64, 4096, maxTicks - 1, maxTicks} {
		wantSlack(t, l, 0, n, 0, api.OK)
	}
	l = parts(part(64, 64, task(64, 64, 64), task(64, 64, 64), task(64, 64, 64), task(64, 64, 64)))
	wantSlack(t, l, 0, maxTicks, -3*maxTicks, api.OK)
}

// P10.1: something shared with others, and nothing: the chapter's partitions of what jobs wait for.
func TestSlackShared(t *testing.T) {
	p := part(5, 2, takes(task(10, 10, 4), 1, 2, 1))
	q := part(7, 3, keeps(takes(task(20, 12, 3), 1, 1, 2), 2))
	r := part(4, 1)
	all, two := parts(p, q, r), parts(p, r)
	// Of P: a delay of 17, below 10; 4 and 15 more are asked for. Alone: 3; 4 and 1.
	for n, number := range map[int]int{0: -17, 7: -16, 9: -15, 10: 2 - 19, 19: 6 - 19, 20: 6 - 38} {
		wantSlack(t, all, 0, n, number, api.OK)
	}
	for n, number := range map[int]int{0: -3, 7: -2, 9: -1, 10: 2 - 5, 19: 6 - 5, 20: 6 - 10} {
		wantSlack(t, two, 0, n, number, api.OK)
		wantSlack(t, parts(p), 0, n, number, api.OK)
	}
	// Of Q: a delay of 11, below 12; 3 and 20 more are asked for.
	for n, number := range map[int]int{0: -11, 8: -11, 9: -10, 11: -8, 12: 3 - 23, 31: 11 - 23, 32: 12 - 46} {
		wantSlack(t, all, 1, n, number, api.OK)
	}
	wantTest(t, all, 0, 0, api.ErrRefused)
	wantTest(t, all, 1, 0, api.ErrRefused)
	wantTest(t, all, 2, 0, api.OK)
	wantTest(t, two, 0, 0, api.ErrRefused)
}

// P10.2: what others share makes a partition wait for longer; till it passes no more.
func TestShared(t *testing.T) {
	a := part(4, 3, takes(task(40, 30, 3), 1, 1, 1))
	b := part(8, 4, takes(task(40, 40, 2), 1, 2, 1))
	for _, row := range []struct {
		l          []api.Part
		at29, at30 int // the slacks
		at         int
		e          api.Errno
	}{
		{l: parts(a), at29: 20, at30: 18, e: api.OK},
		{l: parts(a, b), at29: 4, at30: 2, e: api.OK},
		{l: parts(a, b, part(2, 1)), at29: 4, at30: 2, e: api.OK},
		{l: parts(a, b, part(2, 1, takes(task(9, 9, 1), 2, 1, 1))), at29: 4, at30: 2, e: api.OK},
		{l: parts(a, b, part(1, 1, takes(task(9, 9, 1), 1, 1, 1))), at29: 2, at30: 0, e: api.OK},
		{l: parts(a, b, part(2, 1, takes(task(9, 9, 1), 1, 1, 1))), at29: 0, at30: -2, at: 30, e: api.ErrRefused},
		{l: parts(a, b, part(64, 1, takes(task(9, 9, 1), 1, 1, 1))), at29: -124, at30: -126, at: 0, e: api.ErrRefused},
	} {
		wantSlack(t, row.l, 0, 29, row.at29, api.OK)
		wantSlack(t, row.l, 0, 30, row.at30, api.OK)
		wantTest(t, row.l, 0, row.at, row.e)
	}
}

// P10.1, P10.2: what is more may be above 4096, of one task or of several; no partition passes then.
func TestMuchMore(t *testing.T) {
	often := takes(task(64, 64, 64), 1, 1, 64)
	l := slices.Repeat(parts(part(64, 64, often)), api.MaxParts)
	// Each job waits 64 times, each time for 384 ticks: 24576 more than its Bound.
	for n, number := range map[int]int{0: -385, 63: 63 - 385, 64: 64 - 24640, 127: 127 - 24640, 128: 128 - 2*24640, maxTicks: maxTicks - 16384*24640} {
		wantSlack(t, l, 0, n, number, api.OK)
	}
	wantTest(t, l, 3, 0, api.ErrRefused)
	few := takes(task(32, 10, 10), 1, 2, 5) // 5 times 385: 1925
	l[1].Tasks = []api.Task{often, few, task(9, 9, 1), often}
	for n, number := range map[int]int{0: -387, 8: 8 - 387, 9: 9 - 1 - 387, 10: 10 - 1 - 1935 - 385, 64: 64 - 7 - 2*1935 - 2*24640} {
		wantSlack(t, l, 1, n, number, api.OK)
	}
	wantTest(t, l, 1, 0, api.ErrRefused)
	// As much as demand may be told, and what is next to it.
	for locks, more := range map[int]int{10: 3840, 11: 4224, 12: 4608, 32: 12288} {
		l[2].Tasks = []api.Task{takes(task(64, 64, 32), 1, 1, locks)}
		wantSlack(t, l, 2, 64, 32-more, api.OK)
		wantTest(t, l, 2, 0, api.ErrRefused)
	}
	l = parts(part(64, 64, takes(task(64, 64, 64), 1, 1, 64)), part(32, 1, takes(task(64, 1, 1), 1, 1, 1)))
	wantSlack(t, l, 0, 64, 64-64-4096, api.OK)
	wantTest(t, l, 0, 0, api.ErrRefused)
}

// P10.2: the first t whose slack is below 0 is 1, the least Deadline there is.
func TestShortAtOnce(t *testing.T) {
	for period := 2; period <= api.MaxTime; period++ {
		for _, budget := range []int{1, period / 2, period - 1} {
			wantTest(t, parts(part(period, budget, task(api.MaxTime, 1, 1))), 0, 1, api.ErrRefused)
		}
		wantTest(t, parts(part(period, period, task(api.MaxTime, 1, 1))), 0, 0, api.OK)
	}
	wantTest(t, parts(part(1, 1, task(9, 1, 1), task(9, 1, 1))), 0, 1, api.ErrRefused)
	wantTest(t, parts(part(1, 1, task(9, 1, 1), keeps(task(9, 2, 1), 1))), 0, 1, api.ErrRefused)
	wantTest(t, parts(part(1, 1, task(9, 1, 1), task(9, 2, 1))), 0, 0, api.OK)
}

// P10.2: the first t whose slack is below 0 is any Deadline: a job of the supply keeps to it, one of a tick more does not.
func TestShortAtEveryDeadline(t *testing.T) {
	for _, s := range [][2]int{{1, 1}, {2, 1}, {4, 3}, {8, 5}, {16, 2}, {64, 33}, {64, 63}} {
		m := modelOf(parts(part(s[0], s[1])), 0)
		left, _ := m.slacks(api.MaxTime)
		for deadline := 1; deadline < api.MaxTime; deadline++ {
			given := left[deadline]
			if given > 0 {
				wantTest(t, parts(part(s[0], s[1], task(api.MaxTime, deadline, given))), 0, 0, api.OK)
			}
			if given < deadline {
				wantTest(t, parts(part(s[0], s[1], task(api.MaxTime, deadline, given+1))), 0, deadline, api.ErrRefused)
			}
		}
	}
}

// P10.2: the first t whose slack is below 0 is a later Deadline, a later job's, or the hyperperiod itself. (It is never behind that: so it is never the end.)
func TestShortLater(t *testing.T) {
	for _, row := range []struct {
		p  api.Part
		at int
	}{
		{part(5, 2, task(20, 12, 1), task(20, 17, 5)), 17},
		{part(3, 2, task(6, 3, 1), task(12, 8, 3), task(12, 9, 1)), 9},
		{part(2, 1, task(4, 4, 1), task(8, 8, 2)), 8},
		{part(3, 2, task(18, 18, 4), task(12, 12, 4), task(45, 45, 5)), 180},
		{part(6, 1, task(63, 63, 6), task(42, 42, 3)), 126},
		{part(4, 1, task(22, 22, 4), task(59, 53, 4)), 66},
		{part(20, 20, task(16, 16, 5), task(44, 44, 5), task(44, 12, 5), task(11, 11, 5)), 144},
		{part(4, 1, task(19, 19, 2), task(57, 57, 2), task(64, 64, 1), task(64, 64, 6)), 513},
	} {
		l := parts(row.p)
		wantTest(t, l, 0, row.at, api.ErrRefused)
		left, asked := modelOf(l, 0).slacks(row.at)
		for n, number := range left {
			if short := asked[n] && number < 0; short != (n == row.at) {
				t.Errorf("%v: %d of %d ticks", row.p, number, n)
			}
		}
		wantSlack(t, l, 0, row.at, left[row.at], api.OK)
	}
}

// P10.2: a slack below 0 of ticks for which nothing is asked does not count; one of the first ones for which something is does.
func TestShortOfNothing(t *testing.T) {
	l := parts(part(5, 2, keeps(task(20, 12, 3), 3)))
	for n, number := range []int{-3, -3, -3, -3, -3, -3, -3, -2, -1, -1, -1, -1, 0, 1} {
		wantSlack(t, l, 0, n, number, api.OK)
	}
	wantTest(t, l, 0, 0, api.OK)
	for local, at := range []int{0, 0, 0, 12, 12} {
		l[0].Tasks = []api.Task{task(20, 12, 1), keeps(task(20, 17, 4), local)}
		wantSlack(t, l, 0, 11, 2-local, api.OK)
		wantSlack(t, l, 0, 12, 2-local, api.OK)
		wantSlack(t, l, 0, 17, 0, api.OK)
		errno := api.OK
		if at != 0 {
			errno = api.ErrRefused
		}
		wantTest(t, l, 0, at, errno)
	}
}

// P10.2: as much asked for in a hyperperiod as the server gives, and one tick more, which is refused with 0, though there is a first t.
func TestUse(t *testing.T) {
	full := []api.Task{task(2, 2, 1), task(8, 8, 2), task(16, 16, 3)}
	for _, period := range []int{1, 2, 8, 16} {
		l := parts(part(period, period, append(full, task(16, 16, 1))...))
		wantTest(t, l, 0, 0, api.OK)
		wantSlack(t, l, 0, 16, 0, api.OK)
		l[0].Tasks[3].Bound = 2
		wantTest(t, l, 0, 0, api.ErrRefused)
		wantSlack(t, l, 0, 16, -1, api.OK)
	}
	// Of 20 ticks the server gives 8, but of any 20 in a row but 6.
	for bound, at := range map[int]int{6: 0, 7: 20, 8: 20} {
		errno := api.ErrRefused
		if at == 0 {
			errno = api.OK
		}
		wantTest(t, parts(part(5, 2, task(20, 20, bound))), 0, at, errno)
	}
	wantTest(t, parts(part(5, 2, task(20, 20, 9))), 0, 0, api.ErrRefused)
	wantTest(t, parts(part(5, 2, task(20, 1, 1), task(20, 20, 7))), 0, 1, api.ErrRefused)
	wantTest(t, parts(part(5, 2, task(20, 1, 1), task(20, 20, 8))), 0, 0, api.ErrRefused)
}

// P10.2: what is more counts in what a hyperperiod is asked for, too.
func TestUseOfMore(t *testing.T) {
	other := part(4, 1, takes(task(9, 9, 1), 1, 1, 1))
	for _, row := range []struct {
		long, locks int // what is more is 8 or 9, or twice 8
		bound, at   int
	}{
		{1, 1, 8, 20}, {1, 1, 9, 0}, {2, 1, 7, 20}, {2, 1, 8, 0}, {1, 2, 2, 0},
	} {
		wantTest(t, parts(part(5, 4, takes(task(20, 20, row.bound), 1, row.long, row.locks)), other), 0, row.at, api.ErrRefused)
	}
	wantTest(t, parts(part(5, 4, takes(task(20, 20, 7), 1, 1, 1)), other), 0, 0, api.OK)
}

// P10.2: the greatest hyperperiod that four periods and a server's can have without being above 4096 is 4095 (4096 is none's), the least one above it 4100.
func TestHyper(t *testing.T) {
	fits := []api.Task{task(63, 63, 1), task(39, 39, 1), task(45, 45, 1)}
	above := []api.Task{task(50, 50, 1), task(41, 41, 1)}
	greedy := []api.Task{task(50, 50, 50), task(41, 1, 1)}
	wantTest(t, parts(part(7, 7, fits...)), 0, 0, api.OK)
	wantTest(t, parts(part(63, 32, fits...)), 0, 39, api.ErrRefused)
	wantTest(t, parts(part(13, 1, fits...)), 0, 0, api.OK)
	wantTest(t, parts(part(21, 1, fits...)), 0, 0, api.ErrRefused)
	wantTest(t, parts(part(64, 64, task(63, 63, 1))), 0, 0, api.OK)
	for _, tasks := range [][]api.Task{above, greedy} {
		for _, budget := range []int{1, 4} {
			wantTest(t, parts(part(4, budget, tasks...)), 0, 0, api.ErrLimit)
			wantSlack(t, parts(part(4, budget, tasks...)), 0, 0, 0, api.OK)
		}
	}
	wantTest(t, parts(part(2, 2, above...)), 0, 0, api.OK)
	wantTest(t, parts(part(1, 1, task(64, 64, 1), task(63, 63, 1), task(61, 61, 1), task(59, 59, 1))), 0, 0, api.ErrLimit)
	// Another partition's hyperperiod does not count.
	l := parts(part(4, 4, above...), part(2, 1, task(10, 10, 1)))
	wantTest(t, l, 0, 0, api.ErrLimit)
	wantTest(t, l, 1, 0, api.OK)
}

// P10.1, P10.2, P10.4: an end of which the greatest Deadline is more than twice the Period, of which it is less, and of which one of them is all but nothing; a partition is as the model says far beyond it.
func TestEnds(t *testing.T) {
	for _, l := range [][]api.Part{
		parts(part(2, 1, task(40, 40, 18))),                           // 40, and 40, and 4
		parts(part(2, 1, task(40, 3, 1))),                             // 40, and 3, and 4
		parts(part(64, 40, task(64, 64, 16))),                         // 64, and 64, and 128
		parts(part(64, 60, task(64, 9, 1))),                           // 64, and 9, and 128
		parts(part(1, 1, task(64, 64, 64))),                           // 64, and 64, and 2
		parts(part(64, 64, task(1, 1, 1))),                            // 64, and 1, and 128
		parts(part(1, 1, task(1, 1, 1))),                              // 1, and 1, and 2
		parts(part(64, 64, task(63, 63, 63))),                         // 4032, and 63, and 128
		parts(part(3, 2, task(64, 60, 7), task(4, 4, 1))),             // 192, and 60, and 6
		parts(part(48, 46, keeps(task(12, 12, 5), 2), task(8, 8, 2))), // 48, and 12, and 96
	} {
		if e := wantModel(t, l, 0); e != api.OK {
			t.Errorf("%v: error %d", l, e)
		}
	}
}

// P10.1, P10.2: partitions of all sizes against the model; of each answer there are many.
func TestSomeParts(t *testing.T) {
	random := rand.New(rand.NewSource(101))
	many := map[string]int{}
	for i := range 4000 {
		l := someParts(random, 1+i%api.MaxParts, []int{2, 2, 4, 64}[i/4%4])
		part := random.Intn(len(l))
		e := wantModel(t, l, part)
		at, _ := local.Test(l, part)
		many[fmt.Sprint(e, at > 0, len(l[part].Tasks) > 0)]++
	}
	for _, answer := range []string{"0 false false", "0 false true", "5 false true", "120 false true", "120 true true"} {
		if many[answer] < 150 {
			t.Errorf("%s: but %d", answer, many[answer])
		}
	}
}

// P10.1, P10.2: all small partitions of two tasks, with a Local and without, against the model.
func TestEverySmallPart(t *testing.T) {
	var tasks []api.Task
	for period := 1; period <= 4; period++ {
		for deadline := 1; deadline <= period; deadline++ {
			for bound := 1; bound <= deadline; bound++ {
				tasks = append(tasks, task(period, deadline, bound), keeps(task(period, deadline, bound), bound))
			}
		}
	}
	for period := 1; period <= 4; period++ {
		for budget := 1; budget <= period; budget++ {
			for i, x := range tasks {
				for _, y := range tasks[:i+1] {
					wantModel(t, parts(part(period, budget, x, y)), 0)
				}
			}
		}
	}
}

// P10.1, P10.2: where a partition stands, which local resources its tasks use, and what others have that it does not share, count for nothing.
func TestNothingElseCounts(t *testing.T) {
	random := rand.New(rand.NewSource(102))
	for range 300 {
		l := someParts(random, 1, 3)
		at, e := local.Test(l, 0)
		slack, _ := local.Slack(l, 0, 70)
		now := copied(l)
		for i := range now[0].Tasks {
			now[0].Tasks[i].Locals = random.Intn(600) - 300
		}
		place := 0
		for range random.Intn(api.MaxParts) {
			other := somePart(random, 64)
			for i := range other.Tasks {
				other.Tasks[i] = takes(other.Tasks[i], 0, 0, 0)
			}
			where := random.Intn(len(now) + 1)
			now = slices.Insert(now, where, other)
			if where <= place {
				place++
			}
		}
		wantTest(t, now, place, at, e)
		wantSlack(t, now, place, 70, slack, api.OK)
	}
}

// R2: what is answered hangs on what is handed in alone: calls in between, and what becomes of the lists, count for nothing.
func TestNothingKept(t *testing.T) {
	told := func() string {
		l := parts(part(5, 2, task(20, 12, 4)), part(4, 1))
		at, atE := local.Test(l, 0)
		slack, slackE := local.Slack(l, 0, 12)
		l[0] = l[1]
		return fmt.Sprint(at, atE, slack, slackE)
	}
	for _, l := range [][]api.Part{nil, parts(part(5, 2)), parts(part(64, 64, task(63, 63, 1))), make([]api.Part, 5)} {
		for _, n := range []int{math.MinInt, -1, 0, 1, 64} {
			local.Test(l, n)
			local.Slack(l, n, n)
			local.Slack(l, 0, n)
			if got := told(); got != "12 120 -1 0" {
				t.Errorf("behind %v, %d: %s", l, n, got)
			}
		}
	}
}
