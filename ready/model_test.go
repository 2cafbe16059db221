package ready_test

import (
	"fmt"
	"math"
	"math/rand"
	"slices"
	"testing"

	"escapement/api"
	"escapement/ready"
)

// latest is the greatest deadline: MaxTick + MaxTime.
const latest = 1<<40 + 64

// tasks are numbers of tasks, and some of which no queue has one.
var tasks = []int{0, 1, 2, 3, -1, 4, 5, -2, -3, -4, -5, 8, 15, 16, 17, 62, 63, 64, 65, -63, -64, 256, 1 << 32, 1<<32 + 1, -(1 << 32), -(1 << 32) + 1, math.MinInt, math.MinInt + 1, math.MaxInt - 1, math.MaxInt}

// noDeadlines are numbers that no deadline may be.
var noDeadlines = []int{-1, latest + 1, math.MaxInt, math.MinInt, -2, -3, -64, -(1 << 32), -latest, latest + 2, latest + 63, 2 * latest, 1 << 53, math.MinInt + 1, math.MaxInt - 1}

// made is a queue of so many tasks, which may be.
func made(t *testing.T, many int) *ready.Queue {
	t.Helper()
	q, e := ready.New(many)
	if q == nil || e != api.OK {
		t.Fatalf("New(%d): %v, %d", many, q, e)
	}
	return q
}

// job is a task's, with its deadline.
type job struct{ task, deadline int }

// model is a queue, as the chapter's words say it: its jobs, in whichever order.
type model struct {
	many int
	jobs []job
}

// isAhead tells whether a job comes ahead of another one: by rising deadlines, and by rising tasks among the same ones.
func isAhead(a, b job) bool {
	return a.deadline < b.deadline || a.deadline == b.deadline && a.task < b.task
}

// ordered is all jobs in order: each at the place that so many others come ahead of.
func (m *model) ordered() []job {
	l := make([]job, len(m.jobs))
	for _, x := range m.jobs {
		place := 0
		for _, other := range m.jobs {
			if isAhead(other, x) {
				place++
			}
		}
		l[place] = x
	}
	return l
}

// of is a task's job, if it has one.
func (m *model) of(task int) (x job, is bool) {
	for _, x := range m.jobs {
		if x.task == task {
			return x, true
		}
	}
	return job{}, false
}

func (m *model) put(task, deadline int) api.Errno {
	if task < 0 || task >= m.many {
		return api.ErrRange
	}
	if deadline < 0 || deadline > latest {
		return api.ErrArg
	}
	if _, is := m.of(task); is {
		return api.ErrBusy
	}
	m.jobs = append(m.jobs, job{task, deadline})
	return api.OK
}

func (m *model) remove(task int) bool {
	_, is := m.of(task)
	m.jobs = slices.DeleteFunc(m.jobs, func(x job) bool { return x.task == task })
	return is
}

func (m *model) late(now int) []int {
	var l []int
	for _, x := range m.ordered() {
		if x.deadline <= now {
			l = append(l, x.task)
		}
	}
	return l
}

// both are a queue and the model of it, of which the same is asked.
type both struct {
	t      *testing.T
	q      *ready.Queue
	m      *model
	called string // so far: told where something is wrong
}

// bothOf are those of so many tasks.
func bothOf(t *testing.T, many int) *both {
	t.Helper()
	b := &both{t: t, q: made(t, many), m: &model{many: many}, called: fmt.Sprintf("New(%d)", many)}
	b.same()
	return b
}

// fail fails the test, and says what was called.
func (b *both) fail(what string, got, want any) {
	b.t.Helper()
	b.t.Fatalf("%s: %s: %v, not %v", b.called, what, got, want)
}

// same fails the test unless First, Jobs and the Deadline of each task, and of what is none, are what the model says.
func (b *both) same() {
	b.t.Helper()
	ordered := b.m.ordered()
	var first job
	if len(ordered) > 0 {
		first = ordered[0]
	}
	task, deadline, is := b.q.First()
	if task != first.task || deadline != first.deadline || is != (len(ordered) > 0) {
		b.fail("First()", fmt.Sprint(task, deadline, is), fmt.Sprint(first, len(ordered) > 0))
	}
	jobs := b.q.Jobs()
	if len(jobs) != len(ordered) {
		b.fail("Jobs()", jobs, ordered)
	}
	for i, x := range ordered {
		if jobs[i] != x.task {
			b.fail("Jobs()", jobs, ordered)
		}
	}
	for _, task := range tasks {
		got, is := b.q.Deadline(task)
		if x, wants := b.m.of(task); got != x.deadline || is != wants {
			b.fail(fmt.Sprintf("Deadline(%d)", task), fmt.Sprint(got, is), fmt.Sprint(x.deadline, wants))
		}
	}
}

// late fails the test unless Late is what the model says, about each deadline and at the edges.
func (b *both) late() {
	b.t.Helper()
	ticks := []int{-1, 0, 1, latest - 1, latest, latest + 1, -latest, math.MinInt, math.MinInt + 1, math.MaxInt - 1, math.MaxInt}
	for _, x := range b.m.jobs {
		ticks = append(ticks, x.deadline-1, x.deadline, x.deadline+1)
	}
	for _, now := range ticks {
		if got, want := b.q.Late(now), b.m.late(now); !slices.Equal(got, want) {
			b.fail(fmt.Sprintf("Late(%d)", now), got, want)
		}
	}
	// It was only asked.
	b.same()
}

func (b *both) put(task, deadline int) api.Errno {
	b.t.Helper()
	b.called += fmt.Sprintf(" Put(%d, %d)", task, deadline)
	e, want := b.q.Put(task, deadline), b.m.put(task, deadline)
	if e != want {
		b.fail("it", e, want)
	}
	b.same()
	return e
}

func (b *both) remove(task int) bool {
	b.t.Helper()
	b.called += fmt.Sprintf(" Remove(%d)", task)
	is, want := b.q.Remove(task), b.m.remove(task)
	if is != want {
		b.fail("it", is, want)
	}
	b.same()
	return is
}

// puts puts in the jobs of all tasks, from 0 on, with these deadlines.
func (b *both) puts(deadlines ...int) *both {
	b.t.Helper()
	for task, deadline := range deadlines {
		if e := b.put(task, deadline); e != api.OK {
			b.fail("it", e, api.OK)
		}
	}
	return b
}

// call is one of a queue.
type call func(b *both)

// callsOf is Put of each task, of one below and of one above, with each of the deadlines, and Remove of each.
func callsOf(many int, deadlines ...int) []call {
	var l []call
	for task := -1; task <= many; task++ {
		for _, deadline := range deadlines {
			l = append(l, func(b *both) { b.put(task, deadline) })
		}
		l = append(l, func(b *both) { b.remove(task) })
	}
	return l
}

// eachRow does every row of so many of the calls, each one with a new queue.
func eachRow(t *testing.T, many, length int, calls []call) {
	rows := 1
	for range length {
		rows *= len(calls)
	}
	for row := range rows {
		b := bothOf(t, many)
		for range length {
			calls[row%len(calls)](b)
			row /= len(calls)
		}
		b.late()
	}
}

// P15.1, P15.2: every row of a few calls of small numbers, some wrong ones among them.
func TestEveryRow(t *testing.T) {
	eachRow(t, 0, 3, callsOf(0, -1, 0, 3))
	eachRow(t, 1, 4, callsOf(1, -1, 0, latest))
	eachRow(t, 2, 4, callsOf(2, 3, 4))
	eachRow(t, 4, 3, callsOf(4, 7, 8, latest+1))
}

// anyCall does one of a queue, picked by the random source: most of what it is handed may be.
func anyCall(b *both, random *rand.Rand, deadlines func() int) {
	task := random.Intn(max(b.m.many, 1))
	if random.Intn(12) == 0 {
		task = tasks[random.Intn(len(tasks))]
	}
	deadline := deadlines()
	if random.Intn(12) == 0 {
		deadline = noDeadlines[random.Intn(len(noDeadlines))]
	}
	if random.Intn(5) < 2 {
		b.remove(task)
	} else {
		b.put(task, deadline)
	}
}

// P15.1, P15.2: long runs of calls of any kind, of queues of each size: with few deadlines, so that many are the same, with all that there are, and with some about the greatest one.
func TestLongRuns(t *testing.T) {
	random := rand.New(rand.NewSource(15))
	for run := range 60 {
		deadlines := []func() int{
			func() int { return random.Intn(3) },
			func() int { return random.Intn(latest + 1) },
			func() int { return latest - random.Intn(80) },
			func() int { return random.Intn(6)<<32 + random.Intn(3) },
		}[run/5%4]
		b := bothOf(t, run%5)
		for range 800 {
			anyCall(b, random, deadlines)
			b.late()
			b.called = ""
		}
	}
}

// P15.1, P15.2: time goes on: jobs come with later deadlines, and go when they are first, or late, thousands of times.
func TestTimeGoesOn(t *testing.T) {
	random := rand.New(rand.NewSource(151))
	for _, start := range []int{0, 1 << 31, 1<<40 - 20000} {
		b := bothOf(t, api.MaxTasks)
		for now := start; now < start+20000; now++ {
			for _, task := range b.q.Late(now) {
				b.remove(task)
			}
			if first, _, is := b.q.First(); is && random.Intn(4) == 0 {
				b.remove(first)
			}
			b.put(random.Intn(api.MaxTasks), now+1+random.Intn(api.MaxTime))
			if now%64 == 0 {
				b.late()
			}
			b.called = ""
		}
	}
}
