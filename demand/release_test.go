package demand_test

import (
	"math/rand"
	"testing"

	"escapement/api"
	"escapement/demand"
)

// ways does something for each way of a task to release its jobs in so many ticks; a row has the ticks of the releases.
func ways(period, length int, do func(row []int)) {
	var row []int
	var next func(from int)
	next = func(from int) {
		do(row)
		for at := from; at < length; at++ {
			row = append(row, at)
			next(at + period)
			row = row[:len(row)-1]
		}
	}
	next(0)
}

// asked is for how many ticks the jobs of a row ask that are released, and have their deadlines, in n ticks from a first one on.
func asked(x api.Task, more int, row []int, first, n int) int {
	sum := 0
	for _, release := range row {
		if first <= release && release+x.Deadline <= first+n {
			sum += x.Bound + more
		}
	}
	return sum
}

// everyWay does something for each way of several tasks to release their jobs.
func everyWay(l []api.Task, length int, do func(rows [][]int)) {
	rows := make([][]int, len(l))
	var next func(i int)
	next = func(i int) {
		if i == len(l) {
			do(rows)
			return
		}
		ways(l[i].Period, length, func(row []int) {
			rows[i] = row
			next(i + 1)
		})
	}
	next(0)
}

// lift lets each of most, by how many ticks in a row they are, be no less than what the rows ask for in any of these.
func lift(most []int, l []api.Task, more []int, rows [][]int) {
	for n := range most {
		for first := 0; first+n < len(most); first++ {
			sum := 0
			for i, x := range l {
				sum += asked(x, more[i], rows[i], first, n)
			}
			most[n] = max(most[n], sum)
		}
	}
}

// P8.1, P8.4: small tasks with every way to release their jobs: none asks for more than the demand, and some way asks for just so much.
func TestEveryWay(t *testing.T) {
	for _, row := range []struct {
		l            []api.Task
		more         []int
		length, ways int
	}{
		{nil, nil, 5, 1},
		{[]api.Task{task(1, 1, 1)}, []int{0}, 9, 512},
		{[]api.Task{task(2, 1, 1)}, []int{3}, 13, 610},
		{[]api.Task{task(2, 2, 1)}, []int{0}, 13, 610},
		{[]api.Task{task(3, 1, 1)}, []int{0}, 15, 406},
		{[]api.Task{task(3, 2, 2)}, []int{1}, 15, 406},
		{[]api.Task{task(3, 3, 2)}, []int{0}, 15, 406},
		{[]api.Task{task(5, 4, 2)}, []int{1}, 20, 431},
		{[]api.Task{task(6, 1, 1)}, []int{maxMore}, 20, 251},
		{[]api.Task{task(1, 1, 1), task(3, 2, 1)}, []int{0, 0}, 7, 128 * 19},
		{[]api.Task{task(2, 1, 1), task(3, 3, 2)}, []int{4, 0}, 9, 89 * 41},
		{[]api.Task{task(4, 3, 2), task(5, 2, 1)}, []int{0, 10}, 12, 69 * 45},
		{[]api.Task{task(4, 4, 1), task(4, 1, 1)}, []int{0, 0}, 11, 50 * 50},
		{[]api.Task{task(2, 2, 2), task(3, 1, 1), task(4, 4, 3)}, []int{1, 0, 7}, 7, 34 * 19 * 14},
		{[]api.Task{task(3, 3, 3), task(3, 2, 1), task(4, 2, 2), task(5, 4, 4)}, []int{0, 2, 30, 400}, 6, 13 * 13 * 10 * 8},
	} {
		most, many := make([]int, row.length+1), 0
		everyWay(row.l, row.length, func(rows [][]int) {
			many++
			lift(most, row.l, row.more, rows)
		})
		if many != row.ways {
			t.Errorf("%v in %d ticks: %d ways were tried", row.l, row.length, many)
		}
		for n, number := range most {
			wantOf(t, row.l, row.more, n, number, api.OK)
		}
	}
}

// someWay is any way of a task to release its jobs in so many ticks: in some they are as near as may be, in some not.
func someWay(random *rand.Rand, period, length int) []int {
	var row []int
	late := random.Intn(4) * period
	for at := random.Intn(period + 1); at < length; at += period {
		row = append(row, at)
		if late > 0 && random.Intn(3) == 0 {
			at += random.Intn(late)
		}
	}
	return row
}

// P8.4: tasks of all sizes in some of their ways.
func TestSomeWays(t *testing.T) {
	random := rand.New(rand.NewSource(84))
	for range 3000 {
		l, more := someTasks(random, 20)
		var rows [][]int
		for _, x := range l {
			rows = append(rows, someWay(random, x.Period, 120))
		}
		for range 40 {
			first := random.Intn(120)
			n := random.Intn(121 - first)
			sum := 0
			for i, x := range l {
				sum += asked(x, more[i], rows[i], first, n)
			}
			if got := of(t, l, more, n); got < sum {
				t.Fatalf("Of(%v, %v, %d): %d, but the releases %v ask for %d from %d on", l, more, n, got, rows, sum, first)
			}
		}
	}
}

// P8.5: a hyperperiod more is so much more as Use says; and so are several of them.
func TestHyperMore(t *testing.T) {
	random := rand.New(rand.NewSource(85))
	for range 3000 {
		l, more := someTasks(random, 16)
		hyper, e := demand.Hyper(l, 1+random.Intn(16))
		if e == api.ErrLimit {
			continue
		}
		for _, times := range []int{1, 2, 1 + random.Intn(20)} {
			use, useE := demand.Use(l, more, times*hyper)
			if e != api.OK || useE != api.OK {
				t.Fatalf("%v, %v: Hyper's error %d, Use's %d", l, more, e, useE)
			}
			for _, n := range []int{0, 1, 2, 15, 16, random.Intn(hyper + 1), hyper - 1, hyper, hyper + 1, random.Intn(maxTicks / 2), maxTicks - times*hyper} {
				if got := of(t, l, more, n+times*hyper) - of(t, l, more, n); got != use {
					t.Fatalf("Of(%v, %v, ..): %d more of %d ticks than of %d; Use: %d", l, more, got, n+times*hyper, n, use)
				}
			}
		}
	}
}

// P8.5: at each tick of a hyperperiod.
func TestHyperMoreEveryTick(t *testing.T) {
	for _, l := range [][]api.Task{{taskA, taskB}, {task(64, 1, 1), task(63, 63, 7)}, {task(9, 5, 1), task(35, 35, 35), task(39, 1, 1)}, {task(1, 1, 1)}} {
		more := nothing(l)
		more[0] = 1
		hyper, _ := demand.Hyper(l, 1)
		use, _ := demand.Use(l, more, hyper)
		if hyper == 0 || use == 0 {
			t.Fatalf("%v: Hyper %d, Use %d", l, hyper, use)
		}
		for n := range 2*hyper + 1 {
			wantOf(t, l, more, n+hyper, of(t, l, more, n)+use, api.OK)
		}
	}
}
