package stack_test

import (
	"slices"
	"testing"

	"escapement/api"
	"escapement/stack"
)

// Of a stack that is nil, or a zero one, there is nothing, whatever is asked; and it stays one.
func TestNone(t *testing.T) {
	for _, s := range []*stack.Stack{nil, {}, new(stack.Stack)} {
		for range 2 {
			for _, i := range numbers {
				for _, r := range numbers {
					wantErrno(t, "Lock", s.Lock(i, r), api.ErrNil)
				}
				wantUnlock(t, s, i, 0, api.ErrNil)
				wantList(t, "Drop", s.Drop(i))
				wantList(t, "Held", s.Held(i))
			}
			wantStack(t, s, 0, -1, 0)
			if i, is := s.Top(); i != 0 || is {
				t.Errorf("Top(): %d, %t", i, is)
			}
		}
	}
}

// P13.1: five tasks and more are above the limit, and then there is no stack, whatever tasks these are.
func TestTooManyTasks(t *testing.T) {
	for _, many := range []int{5, 6, 8, 64, 1000} {
		for _, tasks := range [][]api.Task{all(many), make([]api.Task, many)} {
			s, e := stack.New(tasks)
			if s != nil || e != api.ErrLimit {
				t.Errorf("%d tasks: %v, %d", many, s, e)
			}
			// Nobody can do anything with what is answered.
			wantErrno(t, "Lock(0, 0)", s.Lock(0, 0), api.ErrNil)
		}
	}
	// Five of which four are handed in are four.
	bothOf(t, all(5)[:4]).locks(3, 0)
	bothOf(t, all(5)[1:]).locks(3, 0)
}

// P13.1: tasks are taken as they are, even such as no partition may have.
func TestAnyTasks(t *testing.T) {
	for _, locals := range []int{0, 255, 256, -1, -256} {
		tasks := []api.Task{{Locals: locals}, {Period: -1, Deadline: -1, Bound: -1, Locals: locals}}
		for i := range tasks {
			for r := range api.MaxLocals {
				b := bothOf(t, tasks)
				want := api.ErrUse
				if locals&255 == 255 {
					want = api.OK
				}
				wantErrno(t, "Lock", b.lock(i, r), want)
			}
		}
	}
}

// P13.2: a task of -1, of their number, and beyond: ErrRange, ahead of a resource that there is not, or that is held, and of four entries.
func TestNoTask(t *testing.T) {
	for many := range api.MaxTasks + 1 {
		b := bothOf(t, all(many))
		if many > 0 {
			b.locks(0, 0, 0, 1, 0, 2, many-1, 3)
		}
		for _, i := range numbers {
			if 0 <= i && i < many {
				continue
			}
			for _, r := range numbers {
				wantErrno(t, "Lock", b.lock(i, r), api.ErrRange)
			}
			got, e := b.unlock(i)
			if got != 0 || e != api.ErrRange {
				t.Errorf("Unlock(%d): %d, %d", i, got, e)
			}
			wantList(t, "Drop", b.drop(i))
			wantList(t, "Held", b.s.Held(i))
		}
		b.drain()
	}
}

// P13.2: a resource that there is not, or that the task does not use: ErrUse, ahead of one that is held, and of four entries.
func TestNotUsed(t *testing.T) {
	b := bothOf(t, []api.Task{task(9, 0, 1, 2, 3, 4), task(8, 5, 6, 7), task(7)})
	use := func() {
		t.Helper()
		for i, uses := range [][]int{{0, 1, 2, 3, 4}, {5, 6, 7}, nil} {
			for _, r := range numbers {
				if !slices.Contains(uses, r) {
					wantErrno(t, "Lock", b.lock(i, r), api.ErrUse)
				}
			}
		}
		b.called = ""
	}
	use()
	// The other one has it.
	b.locks(1, 5, 1, 7)
	use()
	// The task has four, and another one has it.
	b.locks(0, 0, 0, 1, 0, 2, 0, 3)
	use()
	wantErrno(t, "Lock(0, 4)", b.lock(0, 4), api.ErrNest)
	b.drain()
	use()
}

// P13.2: ErrHeld comes ahead of ErrNest.
func TestHeldAheadOfNest(t *testing.T) {
	b := bothOf(t, all(2)).locks(0, 0, 0, 1, 1, 6, 0, 2, 0, 3)
	for _, r := range []int{0, 1, 2, 3, 6} {
		wantErrno(t, "Lock", b.lock(0, r), api.ErrHeld)
	}
	for _, r := range []int{4, 5, 7} {
		wantErrno(t, "Lock", b.lock(0, r), api.ErrNest)
	}
}

// P13.4: no error changes anything: of each state, each wrong call, and then all is unlocked in the order in which it would be.
func TestErrorChangesNothing(t *testing.T) {
	states := [][]int{nil, {0, 0}, {1, 1, 0, 0}, {0, 0, 0, 1, 0, 2, 0, 3}, {0, 0, 1, 1, 0, 2, 1, 3, 0, 4, 1, 5, 0, 6}}
	for _, state := range states {
		for _, i := range numbers {
			for _, r := range numbers {
				b := bothOf(t, all(3)).locks(state...)
				if b.m.lock(i, r) == api.OK {
					continue
				}
				b.lock(i, r)
				if _, e := b.unlock(2); e != api.ErrFree {
					t.Errorf("Unlock(2): %d", e)
				}
				b.drain()
			}
		}
	}
}
