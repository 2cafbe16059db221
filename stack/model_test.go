package stack_test

import (
	"fmt"
	"math"
	"math/rand"
	"slices"
	"testing"

	"escapement/api"
	"escapement/stack"
)

// numbers are those of tasks and resources, and some that are neither's.
var numbers = []int{0, 1, 2, 3, 4, 5, 6, 7, -1, 8, 9, -8, 32, 63, 64, -64, 1 << 32, 1<<32 + 1, -(1 << 32), math.MinInt, math.MinInt + 1, math.MaxInt - 1, math.MaxInt}

// task is one with that Deadline, that uses these.
func task(deadline int, uses ...int) api.Task {
	t := api.Task{Period: deadline, Deadline: deadline, Bound: 1}
	for _, r := range uses {
		t.Locals |= 1 << r
	}
	return t
}

// example is the three tasks of chapter 6.
func example() []api.Task {
	return []api.Task{task(5, 0), task(9, 0, 1), task(9, 2)}
}

// all is so many tasks, all of which use all.
func all(many int) []api.Task {
	var l []api.Task
	for i := range many {
		l = append(l, task(10+i, 0, 1, 2, 3, 4, 5, 6, 7))
	}
	return l
}

// made is a stack of tasks, which may be.
func made(t *testing.T, tasks []api.Task) *stack.Stack {
	t.Helper()
	s, e := stack.New(tasks)
	if s == nil || e != api.OK {
		t.Fatalf("New(%+v): %v, %d", tasks, s, e)
	}
	return s
}

// pair is a resource that a task has locked.
type pair struct{ task, resource int }

// model is a stack, as the chapter's words say it.
type model struct {
	tasks []api.Task
	rows  []pair
}

// level is how many tasks have a longer Deadline, and one.
func (m *model) level(i int) int {
	n := 1
	for _, other := range m.tasks {
		if m.tasks[i].Deadline < other.Deadline {
			n++
		}
	}
	return n
}

// uses tells whether there is the resource, and the task, which there is, uses it.
func (m *model) uses(i, resource int) bool {
	for r, bit := range []int{1, 2, 4, 8, 16, 32, 64, 128} {
		if r == resource {
			return m.tasks[i].Locals&bit != 0
		}
	}
	return false
}

func (m *model) lock(task, resource int) api.Errno {
	if task < 0 || task >= len(m.tasks) {
		return api.ErrRange
	}
	if !m.uses(task, resource) {
		return api.ErrUse
	}
	has := 0
	for _, x := range m.rows {
		if x.resource == resource {
			return api.ErrHeld
		}
		if x.task == task {
			has++
		}
	}
	if has == 4 {
		return api.ErrNest
	}
	m.rows = append(m.rows, pair{task, resource})
	return api.OK
}

func (m *model) unlock(task int) (int, api.Errno) {
	if task < 0 || task >= len(m.tasks) {
		return 0, api.ErrRange
	}
	for i := len(m.rows); i > 0; i-- {
		if x := m.rows[i-1]; x.task == task {
			m.rows = slices.Delete(m.rows, i-1, i)
			return x.resource, api.OK
		}
	}
	return 0, api.ErrFree
}

func (m *model) drop(task int) []int {
	gone := m.held(task)
	slices.Reverse(gone)
	m.rows = slices.DeleteFunc(m.rows, func(x pair) bool { return x.task == task })
	return gone
}

func (m *model) held(task int) []int {
	var l []int
	for _, x := range m.rows {
		if x.task == task {
			l = append(l, x.resource)
		}
	}
	return l
}

// ceiling is the highest level of the tasks that use one of what is locked.
func (m *model) ceiling() int {
	most := 0
	for _, x := range m.rows {
		for i := range m.tasks {
			if m.uses(i, x.resource) {
				most = max(most, m.level(i))
			}
		}
	}
	return most
}

// top is the task of the last row.
func (m *model) top() (int, bool) {
	if n := len(m.rows); n > 0 {
		return m.rows[n-1].task, true
	}
	return 0, false
}

// both are a stack and the model of it, of which the same is asked.
type both struct {
	t      *testing.T
	s      *stack.Stack
	m      *model
	called string // so far: told where something is wrong
}

// bothOf are those of tasks.
func bothOf(t *testing.T, tasks []api.Task) *both {
	t.Helper()
	b := &both{t: t, s: made(t, tasks), m: &model{tasks: slices.Clone(tasks)}}
	b.same()
	return b
}

// fail fails the test, and says what was called.
func (b *both) fail(what string, got, want any) {
	b.t.Helper()
	b.t.Fatalf("tasks %+v:%s: %s: %v, not %v", b.m.tasks, b.called, what, got, want)
}

// same fails the test unless all that the stack can be asked without changing it is what the model says.
func (b *both) same() {
	b.t.Helper()
	if got, want := b.s.Len(), len(b.m.rows); got != want {
		b.fail("Len()", got, want)
	}
	if got, want := b.s.Ceiling(), b.m.ceiling(); got != want {
		b.fail("Ceiling()", got, want)
	}
	got, is := b.s.Top()
	if want, wants := b.m.top(); got != want || is != wants {
		b.fail("Top()", fmt.Sprint(got, is), fmt.Sprint(want, wants))
	}
	for _, i := range numbers {
		if got, want := b.s.Held(i), b.m.held(i); !slices.Equal(got, want) {
			b.fail(fmt.Sprintf("Held(%d)", i), got, want)
		}
	}
}

func (b *both) lock(task, resource int) api.Errno {
	b.t.Helper()
	b.called += fmt.Sprintf(" Lock(%d, %d)", task, resource)
	e, want := b.s.Lock(task, resource), b.m.lock(task, resource)
	if e != want {
		b.fail("it", e, want)
	}
	b.same()
	return e
}

func (b *both) unlock(task int) (resource int, e api.Errno) {
	b.t.Helper()
	b.called += fmt.Sprintf(" Unlock(%d)", task)
	resource, e = b.s.Unlock(task)
	if want, wants := b.m.unlock(task); resource != want || e != wants {
		b.fail("it", fmt.Sprint(resource, e), fmt.Sprint(want, wants))
	}
	b.same()
	return resource, e
}

func (b *both) drop(task int) []int {
	b.t.Helper()
	b.called += fmt.Sprintf(" Drop(%d)", task)
	got, want := b.s.Drop(task), b.m.drop(task)
	if !slices.Equal(got, want) {
		b.fail("it", got, want)
	}
	b.same()
	return got
}

// locks locks a row of pairs: a task, and a resource that is free.
func (b *both) locks(l ...int) *both {
	b.t.Helper()
	for i := 0; i < len(l); i += 2 {
		if e := b.lock(l[i], l[i+1]); e != api.OK {
			b.fail("it", e, api.OK)
		}
	}
	return b
}

// drain unlocks all, the last one first, which tells the order of the whole stack.
func (b *both) drain() {
	b.t.Helper()
	for {
		task, is := b.s.Top()
		if !is {
			return
		}
		b.unlock(task)
	}
}

// P13.2, P13.3: every row of five calls of two tasks with two resources, and with three of three.
func TestEveryRow(t *testing.T) {
	every(t, []api.Task{task(5, 0, 1), task(9, 0, 1)}, 2, 5)
	every(t, []api.Task{task(9, 0, 1, 2), task(5, 0, 1), task(7, 1, 2)}, 3, 4)
}

// every does every row of so many calls of tasks with so many resources.
func every(t *testing.T, tasks []api.Task, many, calls int) {
	kinds := many + 2
	one := kinds * len(tasks)
	rows := 1
	for range calls {
		rows *= one
	}
	for row := range rows {
		b := bothOf(t, tasks)
		for range calls {
			b.call(row/kinds%len(tasks), row%kinds, many)
			row /= one
		}
		b.drain()
	}
}

// call does the call of that number: below many it locks that resource.
func (b *both) call(task, kind, many int) {
	b.t.Helper()
	switch kind - many {
	case 0:
		b.unlock(task)
	case 1:
		b.drop(task)
	default:
		b.lock(task, kind)
	}
}

// some are tasks of any kind, as many as a stack may have.
func some(random *rand.Rand) []api.Task {
	deadlines := []int{1, 2, 3, 5, 8, 63, 64, 0, -1, 65, 1 << 40, math.MinInt, math.MaxInt}
	few := 1 + random.Intn(len(deadlines))
	var l []api.Task
	for range random.Intn(api.MaxTasks + 1) {
		t := api.Task{Period: random.Intn(65), Deadline: deadlines[random.Intn(few)], Locals: random.Intn(256)}
		switch random.Intn(5) {
		case 0, 1:
			t.Locals = 255
		case 2:
			t.Locals = 1 << random.Intn(10)
		case 3:
			t.Locals = int(random.Uint64())
		}
		l = append(l, t)
	}
	return l
}

// number is one of a task or a resource, mostly below many, else any.
func number(random *rand.Rand, many int) int {
	if many == 0 || random.Intn(12) == 0 {
		return numbers[random.Intn(len(numbers))]
	}
	return random.Intn(many)
}

// P13.2 to P13.6: long runs of calls of any kind.
func TestLongRuns(t *testing.T) {
	random := rand.New(rand.NewSource(13))
	errors := map[api.Errno]int{}
	var longest, drops int
	for run := range 1200 {
		b := bothOf(t, some(random))
		tasks := len(b.m.tasks)
		// How many of twenty calls lock: runs that are nearly always full, and such as are nearly empty.
		locks := 6 + run%14
		for range 100 {
			i := number(random, tasks)
			was, e := len(b.m.rows), api.OK
			switch n := random.Intn(20); {
			case n < locks:
				e = b.lock(i, number(random, api.MaxLocals))
			case n < 19:
				_, e = b.unlock(i)
			default:
				drops += min(1, len(b.drop(i)))
			}
			errors[e]++
			if e != api.OK && len(b.m.rows) != was {
				b.fail("an error changes something", len(b.m.rows), was)
			}
			longest = max(longest, b.s.Len())
		}
		b.drain()
	}
	for _, e := range []api.Errno{api.OK, api.ErrRange, api.ErrUse, api.ErrHeld, api.ErrNest, api.ErrFree} {
		if errors[e] < 1000 {
			t.Errorf("the error %d so often: %d", e, errors[e])
		}
	}
	if longest != api.MaxLocals || drops < 1000 {
		t.Errorf("longest %d, drops %d", longest, drops)
	}
}

// P13.5: nothing is locked twice, and a task unlocks what it locked last, and has not unlocked: told by the answers alone.
func TestLastFirst(t *testing.T) {
	random := rand.New(rand.NewSource(135))
	for range 400 {
		tasks := some(random)
		s := made(t, tasks)
		locked := map[int]int{}     // who has a resource
		rows := make([][]int, 1<<3) // by task
		for range 150 {
			i, r := number(random, len(tasks)), number(random, api.MaxLocals)
			if random.Intn(2) == 0 {
				if s.Lock(i, r) != api.OK {
					continue
				}
				if other, is := locked[r]; is {
					t.Fatalf("%+v: %d is locked by %d, and then by %d", tasks, r, other, i)
				}
				locked[r], rows[i] = i, append(rows[i], r)
				continue
			}
			got, e := s.Unlock(i)
			if e != api.OK {
				continue
			}
			l := rows[i]
			if len(l) == 0 || l[len(l)-1] != got {
				t.Fatalf("%+v: %d unlocks %d of %v", tasks, i, got, l)
			}
			rows[i] = l[:len(l)-1]
			delete(locked, got)
		}
		if s.Len() != len(locked) {
			t.Fatalf("%+v: Len() %d, not %d", tasks, s.Len(), len(locked))
		}
	}
}

// P13.6: the ceiling is at least the level of each task that has an entry.
func TestCeilingAboveLevels(t *testing.T) {
	random := rand.New(rand.NewSource(136))
	held := 0
	for range 400 {
		tasks := some(random)
		s, m := made(t, tasks), &model{tasks: tasks}
		for range 60 {
			i := number(random, len(tasks))
			if random.Intn(3) == 0 {
				s.Unlock(i)
			} else {
				s.Lock(i, number(random, api.MaxLocals))
			}
			for j := range tasks {
				if len(s.Held(j)) == 0 {
					continue
				}
				held++
				if got, own := s.Ceiling(), m.level(j); got < own {
					t.Fatalf("%+v: the ceiling is %d, the level of %d, which has %v, %d", tasks, got, j, s.Held(j), own)
				}
			}
		}
	}
	if held < 10000 {
		t.Errorf("so often a task had something: %d", held)
	}
}
