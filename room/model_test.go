package room_test

import (
	"fmt"
	"math"
	"math/rand"
	"slices"
	"strings"
	"testing"

	"escapement/api"
	"escapement/job"
	"escapement/room"
)

const horizon = 1 << 40

// The sections, as chapter 17 numbers them.
const (
	none   = 0
	local  = 1
	global = 2
	wait   = 3
)

// numbers are those of tasks and resources, and some that are neither's.
var numbers = []int{0, 1, 2, 3, 4, 5, 7, 8, -1, -2, 64, 1 << 32, 1<<32 + 1, -(1 << 32), math.MinInt, math.MinInt + 1, math.MaxInt - 1, math.MaxInt}

// run is an OpRun of so many ticks.
func run(n int) api.Op {
	return api.Op{Kind: api.OpRun, N: n}
}

// lock is an OpLock of a resource.
func lock(n int) api.Op {
	return api.Op{Kind: api.OpLock, N: n}
}

// of is an act of a kind that is told nothing.
func of(kind int) api.Op {
	return api.Op{Kind: kind}
}

// task is one with a Period, a Deadline and a Bound, that uses these, and what partitions share, as often and as long as it likes.
func task(period, deadline, bound int, uses ...int) api.Task {
	t := api.Task{Period: period, Deadline: deadline, Bound: bound, Local: 64, Global: 1, Long: 64, Locks: 64}
	for _, r := range uses {
		t.Locals |= 1 << r
	}
	return t
}

// pair is a resource that a task has locked.
type pair struct{ task, resource int }

// model is a room, as the words of the chapters say it: jobs are those of chapter 17, all else is rows.
type model struct {
	tasks    []api.Task
	earliest []int
	jobs     map[int]*job.Job
	locked   []pair
}

// modelOf is that of tasks: without jobs.
func modelOf(tasks []api.Task) *model {
	return &model{tasks: slices.Clone(tasks), earliest: make([]int, len(tasks)), jobs: map[int]*job.Job{}}
}

// lacks is the error of a task that there is not, or that has no job.
func (m *model) lacks(i int) api.Errno {
	if i < 0 || i >= len(m.tasks) {
		return api.ErrRange
	}
	if m.jobs[i] == nil {
		return api.ErrState
	}
	return api.OK
}

func (m *model) release(i int, ops []api.Op, now int) api.Errno {
	switch e := m.lacks(i); e {
	case api.ErrRange:
		return e
	case api.OK:
		return api.ErrBusy
	}
	j, e := job.New(m.tasks[i], ops, now)
	if e != api.OK {
		return e
	}
	if now < m.earliest[i] {
		return api.ErrEarly
	}
	m.jobs[i], m.earliest[i] = j, now+m.tasks[i].Period
	return api.OK
}

// section is that of a task's job, which there is.
func (m *model) section(i int) int {
	section, _ := m.jobs[i].In()
	return section
}

// level is how many tasks have a longer Deadline, and one.
func (m *model) level(i int) int {
	n := 1
	for _, other := range m.tasks {
		if other.Deadline > m.tasks[i].Deadline {
			n++
		}
	}
	return n
}

// uses tells whether there is the resource, and the task, which there is, uses it.
func (m *model) uses(i, resource int) bool {
	return slices.Contains([]int{0, 1, 2, 3, 4, 5, 6, 7}, resource) && m.tasks[i].Locals&(1<<resource) != 0
}

// ceiling is the highest level of the tasks that use one of what is locked.
func (m *model) ceiling() int {
	most := 0
	for _, x := range m.locked {
		for i := range m.tasks {
			if m.uses(i, x.resource) {
				most = max(most, m.level(i))
			}
		}
	}
	return most
}

func (m *model) held(i int) []int {
	var l []int
	for _, x := range m.locked {
		if x.task == i {
			l = append(l, x.resource)
		}
	}
	return l
}

// list is all tasks that have a job, by rising deadlines, and by rising tasks among the same ones.
func (m *model) list() []int {
	var l []int
	for i := range m.tasks {
		if m.jobs[i] != nil {
			l = append(l, i)
		}
	}
	slices.SortStableFunc(l, func(a, b int) int { return m.jobs[a].Deadline() - m.jobs[b].Deadline() })
	return l
}

func (m *model) sole() (task, section int, is bool) {
	for i := range m.tasks {
		if m.jobs[i] != nil && (m.section(i) == global || m.section(i) == wait) {
			return i, m.section(i), true
		}
	}
	return 0, 0, false
}

func (m *model) who() (task int, is bool) {
	if i, _, is := m.sole(); is {
		return i, true
	}
	l := m.list()
	if len(l) == 0 {
		return 0, false
	}
	if m.jobs[l[0]].Begun() || m.level(l[0]) > m.ceiling() {
		return l[0], true
	}
	return m.locked[len(m.locked)-1].task, true
}

func (m *model) mayLock(i, resource int) api.Errno {
	if e := m.lacks(i); e != api.OK {
		return e
	}
	section := m.section(i)
	if section == global || section == wait {
		return api.ErrNest
	}
	if !m.uses(i, resource) {
		return api.ErrUse
	}
	for _, x := range m.locked {
		if x.resource == resource {
			return api.ErrHeld
		}
	}
	if len(m.held(i)) == 4 {
		return api.ErrNest
	}
	return api.OK
}

func (m *model) lock(i, resource int) api.Errno {
	if e := m.mayLock(i, resource); e != api.OK {
		return e
	}
	m.locked = append(m.locked, pair{i, resource})
	if m.section(i) == none {
		return m.jobs[i].Enter(local)
	}
	return api.OK
}

func (m *model) unlock(i int) api.Errno {
	if e := m.lacks(i); e != api.OK {
		return e
	}
	for place := len(m.locked) - 1; place >= 0; place-- {
		if m.locked[place].task != i {
			continue
		}
		m.locked = slices.Delete(m.locked, place, place+1)
		if len(m.held(i)) > 0 {
			return api.OK
		}
		return m.jobs[i].Leave()
	}
	return api.ErrFree
}

func (m *model) ask(i int) api.Errno {
	if e := m.lacks(i); e != api.OK {
		return e
	}
	if m.tasks[i].Global == 0 {
		return api.ErrUse
	}
	switch m.section(i) {
	case wait:
		return api.OK
	case local, global:
		return api.ErrNest
	}
	if m.jobs[i].Takes() >= m.tasks[i].Locks {
		return api.ErrBound
	}
	return m.jobs[i].Enter(wait)
}

func (m *model) hold(i int) api.Errno {
	if e := m.lacks(i); e != api.OK {
		return e
	}
	if m.section(i) != wait {
		return api.ErrFree
	}
	return m.jobs[i].Enter(global)
}

func (m *model) give(i int) api.Errno {
	if e := m.lacks(i); e != api.OK {
		return e
	}
	if m.section(i) != global {
		return api.ErrFree
	}
	return m.jobs[i].Leave()
}

func (m *model) did(i int) api.Errno {
	if e := m.lacks(i); e != api.OK {
		return e
	}
	return m.jobs[i].Did()
}

func (m *model) run(i int) api.Errno {
	if e := m.lacks(i); e != api.OK {
		return e
	}
	return m.jobs[i].Run()
}

func (m *model) end(i int) bool {
	if m.lacks(i) != api.OK {
		return false
	}
	delete(m.jobs, i)
	m.locked = slices.DeleteFunc(m.locked, func(x pair) bool { return x.task == i })
	return true
}

// nows are ticks about a job's deadline, and about the ends of all that may be asked.
func (m *model) nows(i int) []int {
	l := []int{0, -1, horizon + 65, math.MinInt, math.MaxInt}
	if j := m.jobs[i]; j != nil {
		l = append(l, j.Deadline()-1, j.Deadline(), j.Deadline()+1)
	}
	return l
}

// made is a room of tasks, which may be.
func made(t *testing.T, tasks []api.Task) *room.Room {
	t.Helper()
	r, e := room.New(tasks)
	if r == nil || e != api.OK {
		t.Fatalf("New(%+v): %v, %d", tasks, r, e)
	}
	return r
}

// both are a room and the model of it, of which the same is asked.
type both struct {
	t      *testing.T
	r      *room.Room
	m      *model
	called []string // so far: told where something is wrong
}

// bothOf are those of tasks, which may be.
func bothOf(t *testing.T, tasks ...api.Task) *both {
	t.Helper()
	b := &both{t: t, r: made(t, tasks), m: modelOf(tasks)}
	b.same()
	return b
}

// fail fails the test, and says what was called.
func (b *both) fail(what string, got, want any) {
	b.t.Helper()
	b.t.Fatalf("tasks %+v: %s: %s: %v, not %v", b.m.tasks, strings.Join(b.called, " "), what, got, want)
}

// same fails the test unless all that is asked of the room without changing it is what the model says.
func (b *both) same() {
	who, is := b.m.who()
	if got, gotIs := b.r.Who(); got != who || gotIs != is {
		b.fail("Who()", fmt.Sprint(got, gotIs), fmt.Sprint(who, is))
	}
	sole, section, is := b.m.sole()
	if got, gotSection, gotIs := b.r.Sole(); got != sole || gotSection != section || gotIs != is {
		b.fail("Sole()", fmt.Sprint(got, gotSection, gotIs), fmt.Sprint(sole, section, is))
	}
	if got, want := b.r.Jobs(), b.m.list(); !slices.Equal(got, want) {
		b.fail("Jobs()", got, want)
	}
	for i := -1; i <= api.MaxTasks; i++ {
		b.sameOf(i)
	}
}

// sameOf fails the test unless all that is asked of a task is what the model says.
func (b *both) sameOf(i int) {
	earliest := 0
	if 0 <= i && i < len(b.m.tasks) {
		earliest = b.m.earliest[i]
	}
	if got := b.r.Earliest(i); got != earliest {
		b.fail(fmt.Sprintf("Earliest(%d)", i), got, earliest)
	}
	if got, want := b.r.Held(i), b.m.held(i); !slices.Equal(got, want) {
		b.fail(fmt.Sprintf("Held(%d)", i), got, want)
	}
	// Of a job that is nil there is nothing.
	j := b.m.jobs[i]
	next, is := j.Next()
	if got, gotIs := b.r.Next(i); got != next || gotIs != is {
		b.fail(fmt.Sprintf("Next(%d)", i), fmt.Sprint(got, gotIs), fmt.Sprint(next, is))
	}
	if got, gotIs := b.r.Deadline(i); got != j.Deadline() || gotIs != (j != nil) {
		b.fail(fmt.Sprintf("Deadline(%d)", i), fmt.Sprint(got, gotIs), fmt.Sprint(j.Deadline(), j != nil))
	}
	for _, now := range b.m.nows(i) {
		if got, want := b.r.Fault(i, now), j.Fault(now); got != want {
			b.fail(fmt.Sprintf("Fault(%d, %d)", i, now), got, want)
		}
	}
}

// call fails the test unless a call answers the model's error, and all is the same then.
func (b *both) call(what string, got, want api.Errno) api.Errno {
	b.called = append(b.called, what)
	if got != want {
		b.fail("it", got, want)
	}
	b.same()
	return got
}

func (b *both) release(i int, now int, ops ...api.Op) api.Errno {
	return b.call(fmt.Sprintf("Release(%d, %v, %d)", i, ops, now), b.r.Release(i, ops, now), b.m.release(i, ops, now))
}

func (b *both) did(i int) api.Errno {
	return b.call(fmt.Sprintf("Did(%d)", i), b.r.Did(i), b.m.did(i))
}

func (b *both) run(i int) api.Errno {
	return b.call(fmt.Sprintf("Run(%d)", i), b.r.Run(i), b.m.run(i))
}

func (b *both) lock(i, resource int) api.Errno {
	return b.call(fmt.Sprintf("Lock(%d, %d)", i, resource), b.r.Lock(i, resource), b.m.lock(i, resource))
}

func (b *both) unlock(i int) api.Errno {
	return b.call(fmt.Sprintf("Unlock(%d)", i), b.r.Unlock(i), b.m.unlock(i))
}

func (b *both) ask(i int) api.Errno {
	return b.call(fmt.Sprintf("Ask(%d)", i), b.r.Ask(i), b.m.ask(i))
}

func (b *both) hold(i int) api.Errno {
	return b.call(fmt.Sprintf("Hold(%d)", i), b.r.Hold(i), b.m.hold(i))
}

func (b *both) give(i int) api.Errno {
	return b.call(fmt.Sprintf("Give(%d)", i), b.r.Give(i), b.m.give(i))
}

func (b *both) end(i int) bool {
	got, want := b.r.End(i), b.m.end(i)
	b.called = append(b.called, fmt.Sprintf("End(%d)", i))
	if got != want {
		b.fail("it", got, want)
	}
	b.same()
	return got
}

// wants fails the test unless each call, one behind the other, was answered OK.
func (b *both) wants(l ...api.Errno) *both {
	for _, e := range l {
		if e != api.OK {
			b.fail("one of the last ones", e, api.OK)
		}
	}
	return b
}

// goes lets a task's job, which is in no section, be in one: in SectionLocal it has the first one that is free of what the task uses.
func (b *both) goes(i, section int) *both {
	switch section {
	case local:
		for r := range api.MaxLocals {
			if b.m.mayLock(i, r) == api.OK {
				return b.wants(b.lock(i, r))
			}
		}
	case wait:
		b.wants(b.ask(i))
	case global:
		b.wants(b.ask(i), b.hold(i))
	}
	return b
}

// The calls that change something, but Release.
const (
	callDid = iota
	callRun
	callUnlock
	callAsk
	callHold
	callGive
	callEnd
	callLock // the resource 0; from here on the next ones
)

// any does one of the calls, of a task.
func (b *both) any(call, i int) api.Errno {
	switch call {
	case callDid:
		return b.did(i)
	case callRun:
		return b.run(i)
	case callUnlock:
		return b.unlock(i)
	case callAsk:
		return b.ask(i)
	case callHold:
		return b.hold(i)
	case callGive:
		return b.give(i)
	case callEnd:
		if !b.end(i) {
			return api.ErrState
		}
		return api.OK
	}
	return b.lock(i, call-callLock)
}

// everyState does something with two tasks in each state of some: the first one's job has begun, or not, and is in each section; then the second one's, which has the earlier deadline, is in some.
func everyState(t *testing.T, do func(b *both)) {
	once := task(9, 9, 5, 0, 1)
	once.Locks = 1
	for state := range 8 {
		for _, second := range []int{none, local, wait} {
			b := bothOf(t, once, task(7, 5, 2, 0, 2))
			b.wants(b.release(0, 0, lock(0), run(2), of(api.OpTake)))
			if state >= 4 {
				b.wants(b.did(0))
			}
			b.goes(0, state%4)
			b.wants(b.release(1, 1, run(1), lock(1)))
			do(b.goes(1, second))
		}
	}
}

// P18.2 to P18.5: every row of three calls of two tasks that have jobs, with three resources.
func TestEveryRow(t *testing.T) {
	const calls, kinds = 3, 2 * (callLock + 3)
	for row := range kinds * kinds * kinds {
		everyState(t, func(b *both) {
			left := row
			for range calls {
				b.any(left%kinds/2, left%2)
				left /= kinds
			}
		})
	}
}

// anyAct is one of any kind, every other one an OpRun.
func anyAct(random *rand.Rand) api.Op {
	if random.Intn(2) == 0 {
		return run(1 + random.Intn(1<<random.Intn(7)))
	}
	switch kind := 1 + random.Intn(8); kind {
	case api.OpRun, api.OpLater:
		return api.Op{Kind: kind, N: 1 + random.Intn(64)}
	case api.OpUnlock, api.OpTake, api.OpGive:
		return of(kind)
	default:
		return api.Op{Kind: kind, N: random.Intn(8)}
	}
}

// anyRow is so many acts.
func anyRow(random *rand.Rand, many int) []api.Op {
	var l []api.Op
	for range many {
		l = append(l, anyAct(random))
	}
	return l
}

// anyTask is one that may be asked, with Local, Long and Locks from some number on.
func anyTask(random *rand.Rand, least int) api.Task {
	period := 1 + random.Intn(1<<random.Intn(7))
	deadline := 1 + random.Intn(period)
	number := func() int { return least + random.Intn(1<<random.Intn(6)-least) }
	t := api.Task{Period: period, Deadline: deadline, Bound: 1 + random.Intn(deadline), Local: number(), Long: number(), Locks: number()}
	t.Locals, t.Global = random.Intn(256), random.Intn(5)-random.Intn(2)
	switch random.Intn(4) {
	case 0:
		t.Locals = 255
	case 1:
		t.Locals = int(random.Uint64())
	}
	return t
}

// some are tasks of any kind, as many as there may be.
func some(random *rand.Rand, least int) []api.Task {
	var l []api.Task
	for range random.Intn(api.MaxTasks + 1) {
		l = append(l, anyTask(random, least))
	}
	return l
}

// number is one of a task or a resource, mostly below many, else any.
func number(random *rand.Rand, many int) int {
	if many == 0 || random.Intn(15) == 0 {
		return numbers[random.Intn(len(numbers))]
	}
	return random.Intn(many)
}

// P18.1 to P18.6: long runs of any calls in any order, of any task, and of who goes on.
func TestLongRuns(t *testing.T) {
	random := rand.New(rand.NewSource(18))
	answers := map[[2]int]int{}
	const callRelease = -1
	for turn := range 4000 {
		tasks := some(random, -1)
		b := bothOf(t, tasks...)
		now := random.Intn(1 << random.Intn(41))
		for range 80 {
			i := number(random, len(tasks))
			if who, is := b.r.Who(); is && random.Intn(4) < turn%4 {
				i = who
			}
			call := random.Intn(2 * callLock)
			switch {
			case call == callEnd && random.Intn(4) > 0:
				continue
			case call >= callLock:
				call = callLock + number(random, api.MaxLocals)
			case random.Intn(4) == 0:
				// Most are ahead of the guard's earliest tick, at it, or behind it.
				now += random.Intn(6) - 1
				answers[[2]int{callRelease, int(b.release(number(random, len(tasks)), now, anyRow(random, random.Intn(7))...))}]++
				continue
			}
			e := b.any(call, i)
			answers[[2]int{min(call, callLock), int(e)}]++
		}
		for _, i := range numbers {
			b.sameOf(i)
		}
	}
	for call, errors := range map[int][]api.Errno{
		callRelease: {api.OK, api.ErrRange, api.ErrBusy, api.ErrEarly},
		callDid:     {api.OK, api.ErrRange, api.ErrState},
		callRun:     {api.OK, api.ErrRange, api.ErrState},
		callLock:    {api.OK, api.ErrRange, api.ErrState, api.ErrNest, api.ErrUse, api.ErrHeld},
		callUnlock:  {api.OK, api.ErrRange, api.ErrState, api.ErrFree},
		callAsk:     {api.OK, api.ErrRange, api.ErrState, api.ErrUse, api.ErrNest, api.ErrBound},
		callHold:    {api.OK, api.ErrRange, api.ErrState, api.ErrFree},
		callGive:    {api.OK, api.ErrRange, api.ErrState, api.ErrFree},
		callEnd:     {api.OK, api.ErrState},
	} {
		for _, e := range errors {
			if n := answers[[2]int{call, int(e)}]; n < 100 {
				t.Errorf("the call %d answers %d so often: %d", call, e, n)
			}
		}
	}
}
