package local_test

import (
	"math/rand"
	"testing"

	"escapement/api"
	"escapement/local"
)

// job is one that is played: when it is released, when it must be complete, and how many ticks are left of it.
type job struct {
	from, deadline, left int
}

// playsWell plays jobs over a row of ticks, each of which tells whether the server runs: each such tick the one with the least deadline goes on. It tells whether all are complete by their deadlines, as far as the row goes.
func playsWell(row []bool, jobs []job) bool {
	for tick := range len(row) + 1 {
		first := -1
		for i, j := range jobs {
			if j.left == 0 || j.from > tick {
				continue
			}
			if j.deadline <= tick {
				return false
			}
			if first < 0 || j.deadline < jobs[first].deadline {
				first = i
			}
		}
		if tick < len(row) && row[tick] && first >= 0 {
			jobs[first].left--
		}
	}
	return true
}

// jobsOf are a task's jobs, released at some ticks.
func jobsOf(x api.Task, releases []int) []job {
	var jobs []job
	for _, from := range releases {
		jobs = append(jobs, job{from, from + x.Deadline, x.Bound})
	}
	return jobs
}

// often are all releases of a task in so many ticks, one behind the other as soon as may be.
func often(x api.Task, length int) []int {
	var releases []int
	for from := 0; from < length; from += x.Period {
		releases = append(releases, from)
	}
	return releases
}

// worst is a row of so many ticks in which the server of a partition gives least.
func worst(p api.Part, length int) []bool {
	m := model{Part: p}
	row := make([]bool, length)
	for tick := range row {
		row[tick] = m.runs(tick)
	}
	return row
}

// playsWorst plays all jobs of a partition, released at once and as soon as may be, over the row in which its server gives least.
func playsWorst(p api.Part, length int) bool {
	var jobs []job
	for _, x := range p.Tasks {
		jobs = append(jobs, jobsOf(x, often(x, length))...)
	}
	return playsWell(worst(p, length), jobs)
}

// everyRow does something for each way of a server to run in so many periods; a row begins somewhere in the first one.
func everyRow(p api.Part, periods int, do func(row []bool)) {
	row := make([]bool, 0, p.Period*periods)
	var next func(left int)
	next = func(left int) {
		if len(row) == cap(row) {
			do(row)
			return
		}
		still := p.Period - len(row)%p.Period // ticks of this period
		if still == p.Period {
			left = p.Budget
		}
		for _, run := range []bool{true, false} {
			if run && left > 0 || !run && left < still {
				rest := left
				if run {
					rest--
				}
				row = append(row, run)
				next(rest)
				row = row[:len(row)-1]
			}
		}
	}
	next(0)
}

// everyRelease does something for each way of a task to release its jobs in so many ticks.
func everyRelease(x api.Task, length int, do func(releases []int)) {
	var releases []int
	var next func(from int)
	next = func(from int) {
		do(releases)
		for at := from; at < length; at++ {
			releases = append(releases, at)
			next(at + x.Period)
			releases = releases[:len(releases)-1]
		}
	}
	next(0)
}

// everyJobs does something for each way of several tasks to release their jobs.
func everyJobs(l []api.Task, length int, do func(jobs []job)) {
	if len(l) == 0 {
		do(nil)
		return
	}
	everyRelease(l[0], length, func(releases []int) {
		mine := jobsOf(l[0], releases)
		everyJobs(l[1:], length, func(jobs []job) {
			do(append(append([]job{}, jobs...), mine...))
		})
	})
}

// P10.6: small partitions that pass: whichever ticks of each period the server runs in, and whenever jobs are released, all are complete by their deadlines.
func TestPlayEveryWay(t *testing.T) {
	for _, row := range []struct {
		p       api.Part
		periods int
	}{
		{part(1, 1, task(4, 1, 1), task(5, 5, 3)), 10},
		{part(2, 1, task(5, 3, 1)), 6},
		{part(2, 1, task(6, 6, 2)), 7},
		{part(2, 2, task(4, 2, 1), task(4, 4, 2)), 5},
		{part(3, 1, task(6, 5, 1)), 5},
		{part(3, 2, task(4, 3, 1), task(6, 6, 2)), 4},
		{part(3, 2, task(5, 4, 2)), 4},
		{part(4, 3, task(6, 6, 2), task(8, 7, 2)), 3},
		{part(4, 3, task(4, 4, 2)), 4},
		{part(4, 2, task(12, 9, 2), task(12, 12, 2)), 3},
		{part(4, 4, task(4, 4, 2), task(4, 3, 1), task(8, 4, 1)), 2},
		{part(5, 4, task(5, 3, 1), task(10, 10, 4)), 2},
	} {
		if !passes(parts(row.p), 0) {
			t.Errorf("%v does not pass", row.p)
			continue
		}
		length := row.p.Period * row.periods
		var rows [][]bool
		everyRow(row.p, row.periods, func(row []bool) { rows = append(rows, append([]bool{}, row...)) })
		everyJobs(row.p.Tasks, length, func(jobs []job) {
			for _, way := range rows {
				if !playsWell(way, append([]job{}, jobs...)) {
					t.Fatalf("%v passes, but is late: %v over %v", row.p, jobs, way)
				}
			}
		})
	}
}

// P10.2, P10.6: every small partition whose jobs do not wait for others: if it passes, it is in time where its server gives least and all jobs are released as soon as may be; if it does not, it is late there, not behind the tick that it is refused with.
func TestPlayEverySmallPart(t *testing.T) {
	var tasks []api.Task
	for _, period := range []int{1, 2, 3, 4, 6} {
		for deadline := 1; deadline <= period; deadline++ {
			for bound := 1; bound <= deadline; bound++ {
				tasks = append(tasks, task(period, deadline, bound))
			}
		}
	}
	many := [2]int{}
	for period := 1; period <= 4; period++ {
		for budget := 1; budget <= period; budget++ {
			for i, x := range tasks {
				for _, y := range append([]api.Task{{}}, tasks[:i+1]...) {
					p := part(period, budget, x)
					if y.Period != 0 {
						p.Tasks = append(p.Tasks, y)
					}
					if passes := playAsTested(t, p); passes {
						many[0]++
					} else {
						many[1]++
					}
				}
			}
		}
	}
	if many[0] < 300 || many[1] < 1000 {
		t.Errorf("%d pass, %d don't", many[0], many[1])
	}
}

// playAsTested fails the test unless a partition whose jobs do not wait for others is in time just if it passes; it answers whether it does.
func playAsTested(t *testing.T, p api.Part) bool {
	m := modelOf(parts(p), 0)
	hyper, _ := m.hyper()
	at, e := local.Test(parts(p), 0)
	length := 3*hyper + m.longest() + 2*p.Period
	switch {
	case e == api.OK:
		if !playsWorst(p, length) {
			t.Fatalf("%v passes, but is late", p)
		}
	case at > 0:
		if playsWorst(p, at) {
			t.Fatalf("%v is refused with %d, but is in time till then", p, at)
		}
	default:
		// In each hyperperiod at least a tick more is left to do; so many are more than all jobs together that are not late.
		if playsWorst(p, hyper*(m.longest()*len(p.Tasks)+p.Period)) {
			t.Fatalf("%v is refused with 0, but is in time", p)
		}
	}
	return e == api.OK
}

// P10.2, P10.6: partitions of all sizes whose jobs do not wait for others, likewise.
func TestPlayWorst(t *testing.T) {
	random := rand.New(rand.NewSource(108))
	many := [2]int{}
	for range 1500 {
		p := somePart(random, 6)
		for i := range p.Tasks {
			p.Tasks[i] = keeps(takes(p.Tasks[i], 0, 0, 0), 0)
		}
		m := modelOf(parts(p), 0)
		if hyper, is := m.hyper(); !is || hyper > 200 || len(p.Tasks) == 0 {
			continue
		}
		if playAsTested(t, p) {
			many[0]++
		} else {
			many[1]++
		}
	}
	if many[0] < 100 || many[1] < 100 {
		t.Errorf("%d pass, %d don't", many[0], many[1])
	}
}

// someRow is any way of a server to run in so many ticks.
func someRow(random *rand.Rand, p api.Part, length int) []bool {
	if random.Intn(3) == 0 {
		return worst(p, length)
	}
	row := make([]bool, (length/p.Period+2)*p.Period)
	for from := 0; from < len(row); from += p.Period {
		order := random.Perm(p.Period)
		switch random.Intn(3) {
		case 0: // the first ticks
			for i := range order {
				order[i] = i
			}
		case 1: // the last ones
			for i := range order {
				order[i] = p.Period - 1 - i
			}
		}
		for _, i := range order[:p.Budget] {
			row[from+i] = true
		}
	}
	first := random.Intn(p.Period)
	return row[first:][:length]
}

// someJobs are jobs of a task in so many ticks, released as soon as may be or not, and as long as may be or not.
func someJobs(random *rand.Rand, x api.Task, length int) []job {
	var jobs []job
	late := random.Intn(3) * x.Period
	for from := random.Intn(2) * random.Intn(x.Period+1); from < length; from += x.Period {
		bound := x.Bound
		if random.Intn(4) == 0 {
			bound = 1 + random.Intn(x.Bound)
		}
		jobs = append(jobs, job{from, from + x.Deadline, bound})
		if late > 0 && random.Intn(3) == 0 {
			from += random.Intn(late)
		}
	}
	return jobs
}

// P10.6: partitions of all sizes that pass, among others, in some of their ways.
func TestPlaySomeWays(t *testing.T) {
	random := rand.New(rand.NewSource(109))
	many := 0
	for i := range 6000 {
		l := someParts(random, 1+i%api.MaxParts, 3+i%4*3)
		at := random.Intn(len(l))
		p := l[at]
		if len(p.Tasks) == 0 || !passes(l, at) {
			continue
		}
		many++
		for range 10 {
			length := 50 + random.Intn(300)
			row := someRow(random, p, length)
			var jobs []job
			for _, x := range p.Tasks {
				jobs = append(jobs, someJobs(random, x, length)...)
			}
			if played := append([]job{}, jobs...); !playsWell(row, played) {
				t.Fatalf("%v, %d: passes, but is late: %v over %v", l, at, jobs, row)
			}
		}
	}
	if many < 500 {
		t.Errorf("but %d pass", many)
	}
}
