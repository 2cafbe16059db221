package ready_test

import (
	"math"
	"slices"
	"testing"

	"escapement/api"
	"escapement/ready"
)

// P15.1, P15.2: of a queue that is nil, or a zero one, there is nothing, whatever is asked, and ErrNil comes ahead of what else is wrong; and it stays one.
func TestNone(t *testing.T) {
	deadlines := slices.Concat(noDeadlines, []int{0, 1, 7, api.MaxTick, latest})
	for _, q := range []*ready.Queue{nil, {}, new(ready.Queue)} {
		for range 2 {
			for _, task := range tasks {
				for _, deadline := range deadlines {
					wantErrno(t, "Put", q.Put(task, deadline), api.ErrNil)
				}
				wantRemove(t, q, task, false)
			}
			wantEmpty(t, q)
		}
	}
}

// P15.1: below no task, and above four, there is no queue.
func TestNoQueue(t *testing.T) {
	for _, many := range []int{-1, 5, math.MaxInt, math.MinInt, -2, -4, -5, 6, 7, 8, 63, 64, 65, 1 << 32, 1<<32 + 1, -(1 << 32), -(1 << 32) + 4, math.MinInt + 1, math.MaxInt - 1} {
		q, e := ready.New(many)
		if q != nil || e != api.ErrArg {
			t.Errorf("New(%d): %v, %d", many, q, e)
		}
		// Nobody can do anything with what is answered.
		wantErrno(t, "Put(0, 0)", q.Put(0, 0), api.ErrNil)
		wantEmpty(t, q)
	}
}

// states are queues of each size, without jobs, with some, and with all.
func states(t *testing.T) []func() *both {
	var l []func() *both
	for many := range api.MaxTasks + 1 {
		for jobs := range many + 1 {
			l = append(l,
				func() *both { return bothOf(t, many).puts([]int{7, 5, 7, latest}[:jobs]...) },
				func() *both { return bothOf(t, many).puts([]int{0, latest, 0, 3}[:jobs]...) })
		}
	}
	return l
}

// isTask tells whether there is the task in a queue of so many.
func isTask(task, many int) bool {
	return slices.Contains([]int{0, 1, 2, 3}[:many], task)
}

// P15.1 to P15.3: a task of -1, of their number, and beyond: Put answers ErrRange, ahead of a deadline that may not be; Remove and Deadline answer nothing; and nothing changes.
func TestNoTask(t *testing.T) {
	deadlines := slices.Concat(noDeadlines, []int{0, 7, latest})
	for _, state := range states(t) {
		b := state()
		for _, task := range tasks {
			if isTask(task, b.m.many) {
				continue
			}
			for _, deadline := range deadlines {
				wantErrno(t, "Put", b.put(task, deadline), api.ErrRange)
			}
			if b.remove(task) {
				t.Errorf("Remove(%d): true", task)
			}
			if deadline, is := b.q.Deadline(task); deadline != 0 || is {
				t.Errorf("Deadline(%d): %d, %t", task, deadline, is)
			}
			b.called = ""
		}
		b.late()
	}
}

// P15.1, P15.3: a deadline below 0, or above MaxTick + MaxTime: ErrArg, ahead of a task that has a job already; and nothing changes.
func TestNoDeadline(t *testing.T) {
	for _, state := range states(t) {
		b := state()
		for task := range b.m.many {
			for _, deadline := range noDeadlines {
				wantErrno(t, "Put", b.put(task, deadline), api.ErrArg)
			}
			b.called = ""
		}
		b.late()
	}
}

// P15.1, P15.3: a task that has a job already: ErrBusy, whichever the deadline is, and that of its job stays.
func TestBusy(t *testing.T) {
	for _, state := range states(t) {
		b := state()
		for _, x := range slices.Clone(b.m.jobs) {
			for _, deadline := range []int{0, 1, x.deadline, max(x.deadline-1, 0), min(x.deadline+1, latest), 6, latest} {
				wantErrno(t, "Put", b.put(x.task, deadline), api.ErrBusy)
				wantDeadline(t, b.q, x.task, x.deadline)
			}
		}
		b.late()
	}
}

// P15.3: behind wrong calls of each kind all goes on as without them: each task without a job may have one, each that has one may be removed, once.
func TestErrorChangesNothing(t *testing.T) {
	for _, state := range states(t) {
		b := state()
		for range 3 {
			for _, task := range tasks {
				for _, deadline := range noDeadlines {
					b.put(task, deadline)
				}
				if !isTask(task, b.m.many) {
					b.put(task, 4)
					b.remove(task)
				}
			}
			for _, x := range slices.Clone(b.m.jobs) {
				b.put(x.task, 4)
			}
			b.called = ""
		}
		for task := range b.m.many {
			_, has := b.m.of(task)
			if e := b.put(task, 6); (e == api.OK) == has {
				t.Errorf("Put(%d, 6): %d", task, e)
			}
		}
		b.late()
		for task := range b.m.many {
			if !b.remove(task) || b.remove(task) {
				t.Errorf("Remove(%d): there was just one job", task)
			}
		}
		wantEmpty(t, b.q)
	}
}
