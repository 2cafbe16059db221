package job_test

import (
	"fmt"
	"math"
	"math/rand"
	"slices"
	"strconv"
	"strings"
	"testing"

	"escapement/act"
	"escapement/api"
	"escapement/job"
)

const horizon = 1 << 40

// The sections, as the chapter numbers them.
const (
	none   = 0
	local  = 1
	global = 2
	wait   = 3
)

// What can happen to a job.
const (
	hasDone = iota // an act
	hasRun         // a tick
	hasGone        // into a section, or out of it
)

// event is something that has happened to a job.
type event struct{ kind, section int }

// model is a job, as the chapter's words say it: a row of chapter 16, and all that has happened, one behind the other.
type model struct {
	task api.Task
	at   int // when it was released
	row  *act.Row
	past []event
}

// count is how many events are of a kind.
func (m *model) count(kind int) int {
	n := 0
	for _, x := range m.past {
		if x.kind == kind {
			n++
		}
	}
	return n
}

// in is the section into which it has gone last, and how many ticks it has run behind that.
func (m *model) in() (section, ticks int) {
	for _, x := range m.past {
		switch x.kind {
		case hasRun:
			ticks++
		case hasGone:
			section, ticks = x.section, 0
		}
	}
	return section, ticks
}

// takes is how often it has gone from none into a section of what is shared.
func (m *model) takes() int {
	n, from := 0, none
	for _, x := range m.past {
		if x.kind != hasGone {
			continue
		}
		if from == none && (x.section == global || x.section == wait) {
			n++
		}
		from = x.section
	}
	return n
}

// happens puts an event behind all others, unless there is an error.
func (m *model) happens(x event, e api.Errno) api.Errno {
	if e == api.OK {
		m.past = append(m.past, x)
	}
	return e
}

func (m *model) did() api.Errno {
	return m.happens(event{kind: hasDone}, m.row.Did())
}

func (m *model) run() api.Errno {
	if section, _ := m.in(); section == wait {
		return api.ErrState
	}
	return m.happens(event{kind: hasRun}, m.row.Ran())
}

func (m *model) enter(section int) api.Errno {
	return m.happens(event{hasGone, section}, m.entering(section))
}

func (m *model) entering(section int) api.Errno {
	from, _ := m.in()
	if !slices.Contains([]int{1, 2, 3}, section) {
		return api.ErrArg
	}
	if from == wait && section == global {
		return api.OK
	}
	if from != none {
		return api.ErrNest
	}
	if section != local && m.takes() >= m.task.Locks {
		return api.ErrBound
	}
	return api.OK
}

func (m *model) leave() api.Errno {
	if section, _ := m.in(); section == none {
		return api.ErrFree
	}
	return m.happens(event{hasGone, none}, api.OK)
}

func (m *model) fault(now int) int {
	next, is := m.row.Next()
	section, ticks := m.in()
	if !is {
		return 0
	}
	if now >= m.at+m.task.Deadline {
		return 3
	}
	if m.count(hasRun) >= m.task.Bound && m.row.Left() > 0 {
		return 1
	}
	if section == global && ticks >= m.task.Long {
		return 2
	}
	if section == local && ticks >= m.task.Local && next.Kind == api.OpRun {
		return 2
	}
	return 0
}

// nows are ticks about the deadline, and about the ends of all that may be asked.
func (m *model) nows() []int {
	due := m.at + m.task.Deadline
	return []int{due - 1, due, due + 1, m.at, 0, -1, horizon, math.MinInt, math.MaxInt}
}

// run is an OpRun of so many ticks.
func run(n int) api.Op {
	return api.Op{Kind: api.OpRun, N: n}
}

// lock is an OpLock of a resource.
func lock(n int) api.Op {
	return api.Op{Kind: api.OpLock, N: n}
}

// of is an act of a kind that is told nothing.
func of(kind int) api.Op {
	return api.Op{Kind: kind}
}

// times is an act so often.
func times(op api.Op, n int) []api.Op {
	return slices.Repeat([]api.Op{op}, n)
}

// taskOf is a task with a Period, a Deadline and a Bound.
func taskOf(period, deadline, bound int) api.Task {
	return api.Task{Period: period, Deadline: deadline, Bound: bound}
}

// made is a job, which may be.
func made(t *testing.T, task api.Task, ops []api.Op, now int) *job.Job {
	t.Helper()
	j, e := job.New(task, ops, now)
	if j == nil || e != api.OK {
		t.Fatalf("New(%v, %v, %d): %v, %d", task, ops, now, j, e)
	}
	return j
}

// both are a job and the model of it, of which the same is asked.
type both struct {
	t      *testing.T
	j      *job.Job
	m      *model
	ops    []api.Op
	called []string // so far: told where something is wrong
}

// bothOf are those of a task and acts, which may be.
func bothOf(t *testing.T, task api.Task, ops []api.Op, now int) *both {
	t.Helper()
	row, e := act.New(ops)
	if e != api.OK {
		t.Fatalf("act.New(%v): %d", ops, e)
	}
	b := &both{t: t, j: made(t, task, ops, now), m: &model{task: task, at: now, row: row}, ops: ops}
	b.same()
	return b
}

// fail fails the test, and says what was called.
func (b *both) fail(what string, got, want any) {
	b.t.Helper()
	b.t.Fatalf("New(%v, %v, %d) %s: %s: %v, not %v", b.m.task, b.ops, b.m.at, strings.Join(b.called, " "), what, got, want)
}

// same fails the test unless all that is asked of the job is what the model says.
func (b *both) same() {
	next, is := b.m.row.Next()
	if got, gotIs := b.j.Next(); got != next || gotIs != is {
		b.fail("Next()", fmt.Sprint(got, gotIs), fmt.Sprint(next, is))
	}
	if got := b.j.Done(); got == is {
		b.fail("Done()", got, !is)
	}
	section, ticks := b.m.in()
	if gotSection, gotTicks := b.j.In(); gotSection != section || gotTicks != ticks {
		b.fail("In()", [2]int{gotSection, gotTicks}, [2]int{section, ticks})
	}
	if got, want := b.j.Begun(), b.m.count(hasDone)+b.m.count(hasRun) > 0; got != want {
		b.fail("Begun()", got, want)
	}
	b.number("Deadline()", b.j.Deadline(), b.m.at+b.m.task.Deadline)
	b.number("Ran()", b.j.Ran(), b.m.count(hasRun))
	b.number("Takes()", b.j.Takes(), b.m.takes())
	for _, now := range b.m.nows() {
		if got, want := b.j.Fault(now), b.m.fault(now); got != want {
			b.fail(fmt.Sprintf("Fault(%d)", now), got, want)
		}
	}
	// The row's methods are promoted.
	b.number("Left()", b.j.Left(), b.m.row.Left())
	if got, want := b.j.Rest(), b.m.row.Rest(); !slices.Equal(got, want) {
		b.fail("Rest()", got, want)
	}
}

// number fails the test unless a number is as it is told.
func (b *both) number(what string, got, want int) {
	if got != want {
		b.fail(what, got, want)
	}
}

// call fails the test unless a call answers the model's error, and all is the same then.
func (b *both) call(what string, got, want api.Errno) api.Errno {
	b.called = append(b.called, what)
	if got != want {
		b.fail("it", got, want)
	}
	b.same()
	return got
}

func (b *both) did() api.Errno {
	return b.call("Did()", b.j.Did(), b.m.did())
}

func (b *both) run() api.Errno {
	return b.call("Run()", b.j.Run(), b.m.run())
}

func (b *both) enter(section int) api.Errno {
	return b.call("Enter("+strconv.Itoa(section)+")", b.j.Enter(section), b.m.enter(section))
}

func (b *both) leave() api.Errno {
	return b.call("Leave()", b.j.Leave(), b.m.leave())
}

// steps does what goes on, so often: each is answered OK.
func (b *both) steps(times int) *both {
	for range times {
		e := api.OK
		if op, _ := b.j.Next(); op.Kind == api.OpRun {
			e = b.run()
		} else {
			e = b.did()
		}
		if e != api.OK {
			b.fail("it", e, api.OK)
		}
	}
	return b
}

// enters goes into sections, each from the one ahead: each is answered OK.
func (b *both) enters(sections ...int) *both {
	for _, section := range sections {
		e := api.OK
		if section == none {
			e = b.leave()
		} else {
			e = b.enter(section)
		}
		if e != api.OK {
			b.fail("it", e, api.OK)
		}
	}
	return b
}

// anyAct is one of any kind, with any N that it may have.
func anyAct(random *rand.Rand) api.Op {
	switch kind := 1 + random.Intn(8); kind {
	case api.OpRun, api.OpLater:
		return api.Op{Kind: kind, N: 1 + random.Intn(64)>>random.Intn(7)}
	case api.OpUnlock, api.OpTake, api.OpGive:
		return of(kind)
	case api.OpSend:
		return api.Op{Kind: kind, N: random.Intn(8), S: strings.Repeat("s", random.Intn(17))}
	default:
		return api.Op{Kind: kind, N: random.Intn(8)}
	}
}

// anyRow is so many acts, of which about one of so many is of any kind, and the others are OpRun.
func anyRow(random *rand.Rand, many, others int) []api.Op {
	var l []api.Op
	for range many {
		op := anyAct(random)
		if random.Intn(others) > 0 {
			op = run(1 + random.Intn(64)>>random.Intn(7))
		}
		l = append(l, op)
	}
	return l
}

// anyTask is one that may be asked, with Local, Long and Locks from some number on.
func anyTask(random *rand.Rand, least int) api.Task {
	period := 1 + random.Intn(64)
	deadline := 1 + random.Intn(period)
	bound := 1 + random.Intn(deadline)
	number := func() int { return least + random.Intn(1<<random.Intn(6)-least) }
	return api.Task{Period: period, Deadline: deadline, Bound: bound, Local: number(), Long: number(), Locks: number()}
}

// sections are those that there are, and numbers of none.
var sections = []int{1, 2, 3, 0, 4, -1, 5, -2, 257, 1<<32 + 1, 1<<32 + 2, -(1 << 32) + 3, math.MinInt, math.MinInt + 1, math.MinInt + 3, math.MaxInt, math.MaxInt - 1}

// P17.2 to P17.5: every row of five calls, of a few rows of acts and a few tasks.
func TestEveryRow(t *testing.T) {
	rows := [][]api.Op{
		nil, {run(1)}, {run(3)}, {lock(0), run(2)}, {run(1), lock(1), run(1)}, {of(api.OpTake), run(2), of(api.OpGive)}, {run(1), run(2)}, {lock(0), lock(1), of(api.OpUnlock)},
	}
	tasks := []api.Task{
		{Period: 5, Deadline: 3, Bound: 2, Local: 1, Long: 1, Locks: 1},
		{Period: 3, Deadline: 3, Bound: 1, Local: 2, Long: 0, Locks: 2},
		{Period: 4, Deadline: 4, Bound: 4, Local: 0, Long: 2, Locks: 0},
		{Period: 4, Deadline: 4, Bound: 3, Local: -1, Long: -1, Locks: -1},
	}
	const calls = 5
	for _, task := range tasks {
		for _, ops := range rows {
			for order := range 6 * 6 * 6 * 6 * 6 {
				b := bothOf(t, task, ops, 2)
				for range calls {
					b.any(order % 6)
					order /= 6
				}
			}
		}
	}
}

// any does one of the six calls.
func (b *both) any(call int) api.Errno {
	switch call {
	case 0:
		return b.did()
	case 1:
		return b.run()
	case 2:
		return b.leave()
	default:
		return b.enter(call - 2)
	}
}

// P17.2 to P17.5: long runs of any calls in any order, of rows of each length, of few OpRun and of many.
func TestLongRuns(t *testing.T) {
	random := rand.New(rand.NewSource(17))
	errors := map[api.Errno]int{}
	done, faults := 0, map[int]int{}
	for many := range api.MaxOps + 1 {
		for others := 1; others <= 8; others++ {
			b := bothOf(t, anyTask(random, -2), anyRow(random, many, others), random.Intn(1<<random.Intn(41)))
			// Some rows are left ahead of their end.
			for range random.Intn(1 << (4 + random.Intn(7))) {
				call := random.Intn(10)
				if call >= 6 {
					call %= 2
				}
				switch {
				case random.Intn(20) == 0:
					errors[b.enter(sections[random.Intn(len(sections))])]++
				default:
					errors[b.any(call)]++
				}
				faults[b.j.Fault(b.m.at)]++
				if b.j.Done() {
					done++
				}
			}
		}
	}
	for _, e := range []api.Errno{api.OK, api.ErrState, api.ErrArg, api.ErrNest, api.ErrBound, api.ErrFree} {
		if errors[e] < 200 {
			t.Errorf("errors %v", errors)
		}
	}
	if faults[0] < 1000 || faults[1] < 1000 || faults[2] < 100 || done < 1000 {
		t.Errorf("faults %v, done %d", faults, done)
	}
}
