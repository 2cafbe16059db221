package ready_test

import (
	"math"
	"math/rand"
	"slices"
	"testing"

	"escapement/api"
	"escapement/ready"
)

// wantErrno fails the test unless a call answers that error.
func wantErrno(t *testing.T, call string, got, want api.Errno) {
	t.Helper()
	if got != want {
		t.Errorf("%s: %d, not %d", call, got, want)
	}
}

// wantList fails the test unless a call answers those tasks.
func wantList(t *testing.T, call string, got []int, want ...int) {
	t.Helper()
	if !slices.Equal(got, want) {
		t.Errorf("%s: %v, not %v", call, got, want)
	}
}

// wantRemove fails the test unless Remove answers that of a task.
func wantRemove(t *testing.T, q *ready.Queue, task int, want bool) {
	t.Helper()
	if got := q.Remove(task); got != want {
		t.Errorf("Remove(%d): %t, not %t", task, got, want)
	}
}

// wantFirst fails the test unless that is the first one.
func wantFirst(t *testing.T, q *ready.Queue, task, deadline int) {
	t.Helper()
	if gotTask, gotDeadline, is := q.First(); gotTask != task || gotDeadline != deadline || !is {
		t.Errorf("First(): %d, %d, %t, not %d, %d", gotTask, gotDeadline, is, task, deadline)
	}
}

// wantDeadline fails the test unless that is the deadline of a task's job.
func wantDeadline(t *testing.T, q *ready.Queue, task, want int) {
	t.Helper()
	if got, is := q.Deadline(task); got != want || !is {
		t.Errorf("Deadline(%d): %d, %t, not %d", task, got, is, want)
	}
}

// wantEmpty fails the test unless there is no job in a queue, whatever is asked.
func wantEmpty(t *testing.T, q *ready.Queue) {
	t.Helper()
	if task, deadline, is := q.First(); task != 0 || deadline != 0 || is {
		t.Errorf("First(): %d, %d, %t", task, deadline, is)
	}
	wantList(t, "Jobs()", q.Jobs())
	for _, now := range []int{0, -1, 1, latest, latest + 1, math.MinInt, math.MaxInt} {
		wantList(t, "Late", q.Late(now))
	}
	for _, task := range tasks {
		if deadline, is := q.Deadline(task); deadline != 0 || is {
			t.Errorf("Deadline(%d): %d, %t", task, deadline, is)
		}
	}
}

// P15.1, P15.2: the chapter's examples.
func TestExamples(t *testing.T) {
	q := made(t, 3)
	wantErrno(t, "Put(2, 9)", q.Put(2, 9), api.OK)
	wantErrno(t, "Put(0, 9)", q.Put(0, 9), api.OK)
	wantErrno(t, "Put(1, 4)", q.Put(1, 4), api.OK)
	wantList(t, "Jobs()", q.Jobs(), 1, 0, 2)
	wantFirst(t, q, 1, 4)

	wantErrno(t, "Put(1, 5)", q.Put(1, 5), api.ErrBusy)
	wantErrno(t, "Put(3, 5)", q.Put(3, 5), api.ErrRange)
	wantRemove(t, q, 0, true)
	wantRemove(t, q, 0, false)
	wantList(t, "Late(8)", q.Late(8), 1)
	wantList(t, "Late(9)", q.Late(9), 1, 2)
}

// P15.1, P15.2: from no task to four there is a queue without jobs, and each of its tasks, and no other one, may have one.
func TestNew(t *testing.T) {
	for many := range api.MaxTasks + 1 {
		wantEmpty(t, made(t, many))
		b := bothOf(t, many)
		var want []int
		for task := range many {
			want = append(want, task)
		}
		for _, task := range tasks {
			wantRemove(t, b.q, task, false)
			e := b.put(task, 5)
			if slices.Contains(want, task) {
				wantErrno(t, "Put", e, api.OK)
			} else {
				wantErrno(t, "Put", e, api.ErrRange)
			}
		}
		wantList(t, "Jobs()", b.q.Jobs(), want...)
		b.late()
	}
}

// P15.1, P15.2: a queue of four, which come and go in the order of their deadlines.
func TestFour(t *testing.T) {
	b := bothOf(t, 4).puts(30, 10, 40, 20)
	wantList(t, "Jobs()", b.q.Jobs(), 1, 3, 0, 2)
	b.late()
	for _, want := range []job{{1, 10}, {3, 20}, {0, 30}, {2, 40}} {
		wantFirst(t, b.q, want.task, want.deadline)
		wantDeadline(t, b.q, want.task, want.deadline)
		if !b.remove(want.task) {
			t.Errorf("Remove(%d): there was a job", want.task)
		}
	}
	wantEmpty(t, b.q)
}

// P15.1, P15.2: the least deadline, and the greatest one, of each task, alone and together.
func TestDeadlineEdges(t *testing.T) {
	for _, deadline := range []int{0, 1, 2, 1<<31 - 1, 1 << 31, 1<<32 - 1, 1 << 32, api.MaxTick - 1, api.MaxTick, api.MaxTick + 1, api.MaxTick + api.MaxTime - 1, api.MaxTick + api.MaxTime} {
		for task := range api.MaxTasks {
			b := bothOf(t, api.MaxTasks)
			wantErrno(t, "Put", b.put(task, deadline), api.OK)
			wantFirst(t, b.q, task, deadline)
			wantDeadline(t, b.q, task, deadline)
			wantList(t, "Late at it", b.q.Late(deadline), task)
			wantList(t, "Late a tick ahead", b.q.Late(deadline-1))
			wantErrno(t, "Put again", b.put(task, deadline), api.ErrBusy)
			b.late()
			wantRemove(t, b.q, task, true)
			wantEmpty(t, b.q)
		}
	}
	b := bothOf(t, 4).puts(latest, 0, latest-1, 1)
	wantList(t, "Jobs()", b.q.Jobs(), 1, 3, 2, 0)
	wantList(t, "Late(0)", b.q.Late(0), 1)
	wantList(t, "Late a tick ahead of the greatest one", b.q.Late(latest-1), 1, 3, 2)
	wantList(t, "Late at the greatest one", b.q.Late(latest), 1, 3, 2, 0)
}

// P15.2: of several with the same deadline the lesser task is first, whichever came first.
func TestSameDeadline(t *testing.T) {
	for _, deadline := range []int{0, 7, 1 << 32, latest} {
		b := bothOf(t, 4)
		for task := 3; task >= 0; task-- {
			b.put(task, deadline)
			wantFirst(t, b.q, task, deadline)
		}
		wantList(t, "Jobs()", b.q.Jobs(), 0, 1, 2, 3)
		wantList(t, "Late at it", b.q.Late(deadline), 0, 1, 2, 3)
		wantList(t, "Late a tick ahead", b.q.Late(deadline-1))
		for task := range 4 {
			wantFirst(t, b.q, task, deadline)
			b.remove(task)
		}
		wantEmpty(t, b.q)
	}
	b := bothOf(t, 4).puts(9, 4, 9, 4)
	wantList(t, "Jobs()", b.q.Jobs(), 1, 3, 0, 2)
	wantList(t, "Late(4)", b.q.Late(4), 1, 3)
	// The one that comes anew is not behind the others.
	b.remove(1)
	b.put(1, 4)
	b.remove(0)
	b.put(0, 9)
	wantList(t, "Jobs()", b.q.Jobs(), 1, 3, 0, 2)
}

// P15.2: Late at a tick just at a deadline, a tick ahead of it, and at ticks that are none.
func TestLate(t *testing.T) {
	b := bothOf(t, 4).puts(20, 0, 10, 20)
	for _, row := range []struct {
		now  int
		want []int
	}{
		{math.MinInt, nil}, {-latest, nil}, {-20, nil}, {-1, nil},
		{0, []int{1}}, {1, []int{1}}, {9, []int{1}},
		{10, []int{1, 2}}, {11, []int{1, 2}}, {19, []int{1, 2}},
		{20, []int{1, 2, 0, 3}}, {21, []int{1, 2, 0, 3}}, {latest + 1, []int{1, 2, 0, 3}}, {math.MaxInt, []int{1, 2, 0, 3}},
	} {
		wantList(t, "Late", b.q.Late(row.now), row.want...)
		// Who is late still has a job.
		b.same()
	}
}

// P15.1, P15.2: behind Remove another job may come of the same task, with an earlier deadline, the same one or a later one; only that counts then.
func TestAnotherJob(t *testing.T) {
	for task := range api.MaxTasks {
		b := bothOf(t, 4).puts(10, 10, 10, 10)
		for _, deadline := range []int{5, 15, 15, 10, 0, latest, 9, 11} {
			before, _ := b.q.Deadline(task)
			wantErrno(t, "Put ahead of Remove", b.put(task, deadline), api.ErrBusy)
			wantDeadline(t, b.q, task, before)
			if !b.remove(task) {
				t.Error("Remove: there was a job")
			}
			wantErrno(t, "Put", b.put(task, deadline), api.OK)
			wantDeadline(t, b.q, task, deadline)
			b.late()
			if b.remove(task); b.remove(task) {
				t.Error("Remove again: there was no job")
			}
			wantErrno(t, "Put again", b.put(task, deadline), api.OK)
		}
	}
}

// P15.2: without a job, at first and behind the last one, there is no first one, and nobody is late.
func TestWithoutJobs(t *testing.T) {
	for many := range api.MaxTasks + 1 {
		q := made(t, many)
		wantEmpty(t, q)
		for task := range many {
			q.Put(task, 7)
		}
		for task := range many {
			wantRemove(t, q, task, true)
		}
		wantEmpty(t, q)
		for task := range many {
			wantErrno(t, "Put", q.Put(task, 0), api.OK)
			wantFirst(t, q, task, 0)
			wantRemove(t, q, task, true)
			wantEmpty(t, q)
		}
	}
}

// spoil writes over a list, its spare room, too.
func spoil(l []int) {
	whole := l[:cap(l)]
	for i := range whole {
		whole[i] = -7
	}
}

// P15.3: what Late and Jobs answer is new memory: it may be written over, and is answered again; nor is it changed later.
func TestNewMemory(t *testing.T) {
	b := bothOf(t, 4).puts(30, 10, 40, 20)
	calls := []func() []int{
		b.q.Jobs,
		func() []int { return b.q.Late(math.MaxInt) },
		func() []int { return b.q.Late(30) },
		func() []int { return b.q.Late(5) },
	}
	for _, asked := range calls {
		for _, other := range calls {
			first, second := asked(), other()
			want := slices.Clone(second)
			spoil(first)
			wantList(t, "the other one", second, want...)
			wantList(t, "asked again", other(), want...)
			b.late()
		}
	}
	jobs, late := b.q.Jobs(), b.q.Late(25)
	b.remove(1)
	b.put(1, 50)
	b.remove(2)
	wantList(t, "Jobs as it was answered", jobs, 1, 3, 0, 2)
	wantList(t, "Late as it was answered", late, 1, 3)
}

// P15.1, P15.2: two queues beside each other have nothing to do with each other.
func TestTwoQueues(t *testing.T) {
	a, b := bothOf(t, 4), bothOf(t, 4)
	a.puts(9, 8, 7, 6)
	b.same()
	b.puts(1, 2)
	a.same()
	a.remove(1)
	b.same()
	wantErrno(t, "Put(2, 3)", b.put(2, 3), api.OK)
	b.remove(3)
	a.put(1, 1)
	a.late()
	b.late()
	wantList(t, "Jobs() of the one", a.q.Jobs(), 1, 3, 2, 0)
	wantList(t, "Jobs() of the other one", b.q.Jobs(), 0, 1, 2)
}

// wantFollows fails the test unless, by the answers alone, the first one's deadline is at most each other one's, and Late tells a beginning of Jobs at each tick from one to another: just those whose deadline has come.
func wantFollows(t *testing.T, q *ready.Queue, from, to int) {
	t.Helper()
	jobs := q.Jobs()
	first, least, is := q.First()
	if is != (len(jobs) > 0) || is && jobs[0] != first {
		t.Fatalf("First(): %d, %t, but Jobs() %v", first, is, jobs)
	}
	for _, task := range jobs {
		if deadline, is := q.Deadline(task); !is || deadline < least {
			t.Fatalf("Deadline(%d): %d, %t, but the first one's is %d", task, deadline, is, least)
		}
	}
	for now := from; now <= to; now++ {
		late := q.Late(now)
		if len(late) > len(jobs) {
			t.Fatalf("Late(%d): %v, but Jobs() %v", now, late, jobs)
		}
		wantList(t, "Late", late, jobs[:len(late)]...)
		for i, task := range jobs {
			if deadline, _ := q.Deadline(task); (deadline <= now) != (i < len(late)) {
				t.Fatalf("Late(%d): %v, but the deadline of %d is %d", now, late, task, deadline)
			}
		}
	}
}

// P15.4: so it is for queues with any jobs, at each tick about their deadlines.
func TestFollows(t *testing.T) {
	random := rand.New(rand.NewSource(154))
	for range 400 {
		for many := range api.MaxTasks + 1 {
			for _, start := range []int{0, 1<<32 - 10, latest - 20} {
				q := made(t, many)
				for range 8 {
					task := random.Intn(max(many, 1))
					if random.Intn(4) == 0 {
						q.Remove(task)
					}
					q.Put(task, start+random.Intn(21))
				}
				wantFollows(t, q, start-2, start+22)
			}
		}
	}
}

// orders is every order of some tasks.
func orders(l []int) [][]int {
	if len(l) == 0 {
		return [][]int{nil}
	}
	var all [][]int
	for i, first := range l {
		for _, rest := range orders(slices.Delete(slices.Clone(l), i, i+1)) {
			all = append(all, append([]int{first}, rest...))
		}
	}
	return all
}

// picked is those of the tasks whose bit is set.
func picked(bits int) []int {
	var l []int
	for task := range api.MaxTasks {
		if bits>>task&1 == 1 {
			l = append(l, task)
		}
	}
	return l
}

// wantAlike fails the test unless two queues answer the same, whatever they are asked.
func wantAlike(t *testing.T, a, b *ready.Queue) {
	t.Helper()
	wantList(t, "Jobs()", a.Jobs(), b.Jobs()...)
	taskA, deadlineA, isA := a.First()
	taskB, deadlineB, isB := b.First()
	if taskA != taskB || deadlineA != deadlineB || isA != isB {
		t.Errorf("First(): %d, %d, %t, not %d, %d, %t", taskA, deadlineA, isA, taskB, deadlineB, isB)
	}
	for task := range api.MaxTasks {
		deadlineA, isA := a.Deadline(task)
		deadlineB, isB := b.Deadline(task)
		if deadlineA != deadlineB || isA != isB {
			t.Errorf("Deadline(%d): %d, %t, not %d, %t", task, deadlineA, isA, deadlineB, isB)
		}
	}
	for now := range 5 {
		wantList(t, "Late", a.Late(now), b.Late(now)...)
	}
}

// P15.5: every order in which four jobs are put, and in which some of them are removed, comes to the same as the rest put alone.
func TestEveryOrder(t *testing.T) {
	for _, deadlines := range [][]int{{1, 2, 3, 4}, {4, 3, 2, 1}, {2, 4, 1, 3}, {2, 2, 2, 2}, {1, 1, 3, 3}, {3, 1, 3, 1}, {2, 1, 2, 3}, {0, latest, 0, latest}, {4, 2, 2, 0}} {
		for bits := range 1 << api.MaxTasks {
			alone := bothOf(t, api.MaxTasks)
			for _, task := range picked(^bits) {
				alone.put(task, deadlines[task])
			}
			for _, puts := range orders(picked(0b1111)) {
				for _, removes := range orders(picked(bits)) {
					q := made(t, api.MaxTasks)
					for _, task := range puts {
						wantErrno(t, "Put", q.Put(task, deadlines[task]), api.OK)
					}
					for _, task := range removes {
						wantRemove(t, q, task, true)
					}
					wantAlike(t, q, alone.q)
				}
			}
			if t.Failed() {
				t.Fatalf("deadlines %v, removed %v", deadlines, picked(bits))
			}
		}
	}
}

// P15.5: some that are removed between puts, and put anew with other deadlines, count for nothing, either.
func TestRemovedBetween(t *testing.T) {
	random := rand.New(rand.NewSource(155))
	for range 2000 {
		last := map[int]int{}
		q := made(t, api.MaxTasks)
		for range random.Intn(30) {
			task, deadline := random.Intn(api.MaxTasks), random.Intn(5)
			q.Remove(task)
			delete(last, task)
			if random.Intn(3) > 0 {
				q.Put(task, deadline)
				last[task] = deadline
			}
		}
		// Put in the order in which the map tells them: that counts for nothing.
		alone := made(t, api.MaxTasks)
		for task, deadline := range last {
			alone.Put(task, deadline)
		}
		wantAlike(t, q, alone)
		wantAlike(t, alone, q)
	}
}
