package stack_test

import (
	"slices"
	"testing"

	"escapement/api"
	"escapement/stack"
)

// wantErrno fails the test unless a call answers that error.
func wantErrno(t *testing.T, call string, got, want api.Errno) {
	t.Helper()
	if got != want {
		t.Errorf("%s: %d, not %d", call, got, want)
	}
}

// wantList fails the test unless a call answers those resources.
func wantList(t *testing.T, call string, got []int, want ...int) {
	t.Helper()
	if !slices.Equal(got, want) {
		t.Errorf("%s: %v, not %v", call, got, want)
	}
}

// wantUnlock fails the test unless a task unlocks that resource, or is answered that error.
func wantUnlock(t *testing.T, s *stack.Stack, task, resource int, want api.Errno) {
	t.Helper()
	if got, e := s.Unlock(task); got != resource || e != want {
		t.Errorf("Unlock(%d): %d, %d, not %d, %d", task, got, e, resource, want)
	}
}

// wantStack fails the test unless a stack has that ceiling, that task at its top (-1: none), and so many entries.
func wantStack(t *testing.T, s *stack.Stack, ceiling, top, many int) {
	t.Helper()
	task, is := s.Top()
	if !is && task == 0 {
		task = -1
	}
	if s.Ceiling() != ceiling || task != top || s.Len() != many {
		t.Errorf("Ceiling() %d, Top() %d, %t, Len() %d, not %d, %d, %d", s.Ceiling(), task, is, s.Len(), ceiling, top, many)
	}
}

// The chapter's examples.
func TestExamples(t *testing.T) {
	s := made(t, example())
	wantStack(t, s, 0, -1, 0)
	wantErrno(t, "Lock(1, 1)", s.Lock(1, 1), api.OK)
	wantStack(t, s, 1, 1, 1)
	wantErrno(t, "Lock(1, 0)", s.Lock(1, 0), api.OK)
	wantStack(t, s, 3, 1, 2)
	wantList(t, "Held(1)", s.Held(1), 1, 0)
	wantErrno(t, "Lock(0, 0)", s.Lock(0, 0), api.ErrHeld)
	wantErrno(t, "Lock(2, 0)", s.Lock(2, 0), api.ErrUse)
	wantErrno(t, "Lock(3, 0)", s.Lock(3, 0), api.ErrRange)
	wantStack(t, s, 3, 1, 2)
	wantUnlock(t, s, 1, 0, api.OK)
	wantUnlock(t, s, 1, 1, api.OK)
	wantUnlock(t, s, 1, 0, api.ErrFree)
	wantStack(t, s, 0, -1, 0)
}

// P13.1: from no task to four there is a stack without entries.
func TestNew(t *testing.T) {
	for many := range api.MaxTasks + 1 {
		s := made(t, all(many))
		wantStack(t, s, 0, -1, 0)
		for _, i := range numbers {
			wantList(t, "Held", s.Held(i))
			wantList(t, "Drop", s.Drop(i))
			want := api.ErrFree
			if i < 0 || i >= many {
				want = api.ErrRange
			}
			wantUnlock(t, s, i, 0, want)
		}
		wantStack(t, s, 0, -1, 0)
	}
}

// P13.1: a stack of no tasks is one, even if there is no list: nothing can be locked, and that is not ErrNil.
func TestNoTasks(t *testing.T) {
	for _, tasks := range [][]api.Task{nil, {}, all(4)[:0], all(2)[2:]} {
		b := bothOf(t, tasks)
		for _, i := range numbers {
			wantErrno(t, "Lock", b.lock(i, 0), api.ErrRange)
			_, e := b.unlock(i)
			wantErrno(t, "Unlock", e, api.ErrRange)
			wantList(t, "Drop", b.drop(i))
		}
		wantStack(t, b.s, 0, -1, 0)
	}
}

// P13.2: four tasks lock all there is, two each, and unlock it from the top, or from the bottom.
func TestFourTasks(t *testing.T) {
	b := bothOf(t, all(4)).locks(3, 0, 2, 1, 1, 2, 0, 3, 0, 7, 1, 6, 2, 5, 3, 4)
	wantStack(t, b.s, 4, 3, 8)
	for i := range 4 {
		for r := range api.MaxLocals {
			wantErrno(t, "Lock", b.lock(i, r), api.ErrHeld)
		}
	}
	for i, want := range []int{7, 6, 5, 4} {
		wantUnlock(t, b.s, i, want, api.OK)
	}
	wantStack(t, b.s, 4, 0, 4)
	for i, want := range []int{2, 1, 0} {
		wantUnlock(t, b.s, i+1, want, api.OK)
	}
	wantStack(t, b.s, 4, 0, 1)
	wantList(t, "Held(0)", b.s.Held(0), 3)
}

// P13.2: with four entries there is no fifth one, but somebody else may have four, too, and there is room again when one is unlocked.
func TestFourEntries(t *testing.T) {
	b := bothOf(t, all(2)).locks(0, 7, 0, 2, 0, 5, 0, 0)
	for _, r := range []int{1, 3, 4, 6} {
		wantErrno(t, "Lock", b.lock(0, r), api.ErrNest)
	}
	b.locks(1, 6, 1, 1, 1, 4)
	wantErrno(t, "Lock", b.lock(0, 3), api.ErrNest)
	b.locks(1, 3)
	wantStack(t, b.s, 2, 1, 8)
	wantList(t, "Held(0)", b.s.Held(0), 7, 2, 5, 0)
	wantList(t, "Held(1)", b.s.Held(1), 6, 1, 4, 3)
	b.unlock(1)
	wantErrno(t, "Lock", b.lock(0, 3), api.ErrNest)
	b.unlock(0)
	b.locks(0, 3)
	wantErrno(t, "Lock", b.lock(0, 0), api.ErrNest)
	wantList(t, "Held(0)", b.s.Held(0), 7, 2, 5, 3)
	wantList(t, "Drop(0)", b.drop(0), 3, 5, 2, 7)
	b.locks(0, 5, 0, 7, 0, 0, 0, 2)
	wantErrno(t, "Lock", b.lock(0, 3), api.ErrNest)
	b.drain()
}

// P13.2: what somebody else has, and what the task has itself, is held; when it is unlocked or dropped, it is not.
func TestHeld(t *testing.T) {
	b := bothOf(t, []api.Task{task(5, 0, 3), task(9, 0, 1), task(9, 2)}).locks(1, 0)
	wantErrno(t, "somebody else has it", b.lock(0, 0), api.ErrHeld)
	wantErrno(t, "the task has it itself", b.lock(1, 0), api.ErrHeld)
	b.locks(0, 3, 1, 1)
	wantErrno(t, "two more on top", b.lock(1, 0), api.ErrHeld)
	wantErrno(t, "not the last one", b.lock(0, 0), api.ErrHeld)
	b.unlock(1)
	wantErrno(t, "still", b.lock(0, 0), api.ErrHeld)
	b.unlock(1)
	b.locks(0, 0)
	wantErrno(t, "now by the other one", b.lock(1, 0), api.ErrHeld)
	b.drop(0)
	b.locks(1, 0)
	wantErrno(t, "the first one again", b.lock(0, 0), api.ErrHeld)
}

// P13.2: of entries of several tasks, mixed, each task's last one is unlocked, wherever it is; the others stay in order.
func TestMixed(t *testing.T) {
	mixed := func() *both {
		return bothOf(t, all(3)).locks(0, 4, 1, 0, 2, 6, 1, 7, 0, 1, 2, 3, 1, 2)
	}
	for _, row := range []struct{ task, want, top int }{{0, 1, 1}, {1, 2, 2}, {2, 3, 1}} {
		b := mixed()
		if got, e := b.unlock(row.task); got != row.want || e != api.OK {
			t.Errorf("Unlock(%d): %d, %d", row.task, got, e)
		}
		wantStack(t, b.s, 3, row.top, 6)
		b.drain()
	}
	for _, row := range []struct {
		task    int
		want    []int
		ceiling int
		top     int
	}{{0, []int{1, 4}, 3, 1}, {1, []int{2, 7, 0}, 3, 2}, {2, []int{3, 6}, 3, 1}} {
		b := mixed()
		wantList(t, "Drop", b.drop(row.task), row.want...)
		wantStack(t, b.s, row.ceiling, row.top, 7-len(row.want))
		wantList(t, "Held", b.s.Held(row.task))
		wantList(t, "Drop again", b.drop(row.task))
		b.drain()
	}
	b := mixed()
	b.unlock(1)
	b.locks(0, 2, 1, 5)
	wantList(t, "Held(0)", b.s.Held(0), 4, 1, 2)
	wantList(t, "Held(1)", b.s.Held(1), 0, 7, 5)
	wantList(t, "Drop(2)", b.drop(2), 3, 6)
	b.drain()
}

// P13.2, P13.3: of a task without an entry nothing is held, dropped, or unlocked, whatever others have.
func TestWithoutEntry(t *testing.T) {
	b := bothOf(t, all(3)).locks(0, 1, 2, 4)
	for _, i := range []int{1, 3, -1} {
		wantList(t, "Held", b.s.Held(i))
		wantList(t, "Drop", b.drop(i))
	}
	_, e := b.unlock(1)
	wantErrno(t, "Unlock(1)", e, api.ErrFree)
	wantStack(t, b.s, 3, 2, 2)
}

// P13.2, P13.3: a stack that is empty again is as it was at first.
func TestEmptyAgain(t *testing.T) {
	b := bothOf(t, all(2))
	for range 50 {
		b.locks(0, 1, 1, 3, 0, 2)
		b.drain()
		wantStack(t, b.s, 0, -1, 0)
		_, e := b.unlock(0)
		wantErrno(t, "Unlock(0)", e, api.ErrFree)
		b.locks(1, 2, 0, 3, 0, 1)
		b.drop(1)
		b.drop(0)
		wantStack(t, b.s, 0, -1, 0)
		b.called = ""
	}
}

// P13.3: the ceiling is that of the highest resource, wherever it is in the stack, and falls as soon as that is free.
func TestCeiling(t *testing.T) {
	tasks := []api.Task{task(9, 0, 1, 2, 3), task(7, 1, 2, 3), task(7, 2, 3), task(3, 3)}
	b := bothOf(t, tasks)
	for r, want := range []int{1, 2, 2, 4} {
		b.locks(0, r)
		wantStack(t, b.s, want, 0, r+1)
	}
	for _, want := range []int{2, 2, 1, 0} {
		b.unlock(0)
		if got := b.s.Ceiling(); got != want {
			t.Errorf("Ceiling(): %d, not %d", got, want)
		}
	}
	b.locks(2, 3, 0, 1, 0, 0)
	wantStack(t, b.s, 4, 0, 3)
	b.unlock(2)
	wantStack(t, b.s, 2, 0, 2)
	b.locks(1, 3)
	b.drop(0)
	wantStack(t, b.s, 4, 1, 1)
	b.drop(1)
	wantStack(t, b.s, 0, -1, 0)
	// All Deadlines the same: all ceilings are 1.
	b = bothOf(t, []api.Task{task(6, 0), task(6, 0, 1)}).locks(0, 0)
	wantStack(t, b.s, 1, 0, 1)
}

// P13.3: the first task is told at the top as it is, not as no task is.
func TestTop(t *testing.T) {
	s := made(t, all(1))
	if i, is := s.Top(); i != 0 || is {
		t.Errorf("without entries: %d, %t", i, is)
	}
	s.Lock(0, 0)
	if i, is := s.Top(); i != 0 || !is {
		t.Errorf("of the task 0: %d, %t", i, is)
	}
	// The resource 0 is told as it is, not as none is.
	wantUnlock(t, s, 0, 0, api.OK)
	wantUnlock(t, s, 0, 0, api.ErrFree)
}

// P13.2: two stacks beside each other have nothing to do with each other, even if they are of the same list.
func TestTwoStacks(t *testing.T) {
	tasks := all(3)
	a, b := bothOf(t, tasks), bothOf(t, tasks)
	a.locks(0, 1, 1, 2)
	b.same()
	b.locks(2, 1, 0, 2, 0, 3, 0, 4, 0, 5)
	a.same()
	wantErrno(t, "Lock(0, 6)", b.lock(0, 6), api.ErrNest)
	a.locks(0, 6)
	b.drop(0)
	a.same()
	a.unlock(1)
	b.same()
	wantStack(t, a.s, 3, 0, 2)
	wantStack(t, b.s, 3, 2, 1)
	a.drain()
	b.drain()
}

// P13.4: what is handed in is only read, its spare room too, and not kept.
func TestHandedIn(t *testing.T) {
	tasks := append(make([]api.Task, 0, 8), example()...)
	spare := tasks[:8]
	spare[3] = task(1, 0, 1, 2, 3)
	was := slices.Clone(spare)
	b := bothOf(t, tasks)
	b.locks(1, 1, 1, 0)
	b.lock(0, 0)
	b.lock(3, 3)
	b.drop(1)
	if !slices.Equal(spare, was) {
		t.Errorf("the tasks are changed: %+v", spare)
	}
	// With these everything would be answered otherwise.
	for i := range spare {
		spare[i] = task(100-i, 3, 4)
	}
	b.same()
	b.locks(1, 1, 1, 0, 2, 2)
	wantStack(t, b.s, 3, 2, 3)
	wantErrno(t, "Lock(0, 3)", b.lock(0, 3), api.ErrUse)
	clear(spare)
	b.same()
	b.unlock(1)
	wantErrno(t, "Lock(0, 0)", b.lock(0, 0), api.OK)
	b.drain()
}

// P13.4: what is answered is new memory: whatever becomes of it, its spare room too, changes no later answer, and later calls change it not.
func TestAnswered(t *testing.T) {
	spoil := func(l []int) {
		l = l[:cap(l)]
		for i := range l {
			l[i] = 77
		}
	}
	b := bothOf(t, all(2)).locks(0, 1, 0, 2, 1, 4, 0, 3)
	spoil(b.s.Held(0))
	spoil(b.s.Held(1))
	b.same()
	one, two := b.s.Held(0), b.s.Held(0)
	spoil(one)
	wantList(t, "another answer", two, 1, 2, 3)
	wantUnlock(t, b.s, 0, b.m.held(0)[2], api.OK)
	b.m.unlock(0)
	b.locks(0, 7, 0, 6)
	wantList(t, "an earlier answer", two, 1, 2, 3)
	held := b.s.Held(0)
	dropped := b.drop(0)
	wantList(t, "what was held", held, 1, 2, 7, 6)
	wantList(t, "what was dropped", dropped, 6, 7, 2, 1)
	b.locks(0, 5, 0, 0)
	wantList(t, "what was dropped", dropped, 6, 7, 2, 1)
	spoil(dropped)
	spoil(held)
	b.same()
	wantList(t, "Drop(0)", b.drop(0), 0, 5)
	spoil(b.s.Drop(1))
	b.m.drop(1)
	b.same()
}
