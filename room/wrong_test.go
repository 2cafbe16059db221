package room_test

import (
	"math"
	"slices"
	"testing"

	"escapement/api"
	"escapement/room"
)

// wantNothing fails the test unless a room answers nothing of a task, and that error to each call but Release.
func wantNothing(t *testing.T, r *room.Room, task int, want api.Errno) {
	t.Helper()
	for call, e := range map[string]api.Errno{
		"Did": r.Did(task), "Run": r.Run(task), "Unlock": r.Unlock(task), "Ask": r.Ask(task), "Hold": r.Hold(task), "Give": r.Give(task),
	} {
		wantErrno(t, call, e, want)
	}
	for _, resource := range numbers {
		wantErrno(t, "Lock", r.Lock(task, resource), want)
	}
	if op, is := r.Next(task); op != (api.Op{}) || is {
		t.Errorf("Next(%d): %v, %t", task, op, is)
	}
	for _, now := range []int{0, 1, -1, 64, horizon, math.MinInt, math.MaxInt} {
		if got := r.Fault(task, now); got != 0 {
			t.Errorf("Fault(%d, %d): %d", task, now, got)
		}
	}
	if r.End(task) {
		t.Errorf("End(%d): true", task)
	}
	if got, is := r.Deadline(task); got != 0 || is {
		t.Errorf("Deadline(%d): %d, %t", task, got, is)
	}
	wantList(t, "Held", r.Held(task))
}

// someRows are acts that may be, and such as may not.
var someRows = [][]api.Op{nil, {run(1)}, {run(0)}, slices.Repeat([]api.Op{run(1)}, 33)}

// Of a room that is nil, or a zero one, there is nothing, whatever is asked; and it stays one.
func TestNone(t *testing.T) {
	for _, r := range []*room.Room{nil, {}, new(room.Room)} {
		for range 2 {
			for _, i := range numbers {
				wantNothing(t, r, i, api.ErrNil)
				if got := r.Earliest(i); got != 0 {
					t.Errorf("Earliest(%d): %d", i, got)
				}
				for _, ops := range someRows {
					for _, now := range []int{0, -1, horizon + 1} {
						wantErrno(t, "Release", r.Release(i, ops, now), api.ErrNil)
					}
				}
			}
			wantWho(t, r, -1)
			wantSole(t, r, -1, none)
			wantList(t, "Jobs()", r.Jobs())
		}
	}
}

// Of a task that there is not each call tells ErrRange, or nothing, whatever else is wrong; and nothing has changed.
func TestNoTask(t *testing.T) {
	for many := range api.MaxTasks + 1 {
		for section := range 4 {
			b := bothOf(t, slices.Repeat([]api.Task{task(9, 9, 9, 0)}, many)...)
			if many > 0 {
				b.wants(b.release(many-1, 0, run(1)))
				b.goes(many-1, section)
			}
			for _, i := range numbers {
				if 0 <= i && i < many {
					continue
				}
				wantNothing(t, b.r, i, api.ErrRange)
				if got := b.r.Earliest(i); got != 0 {
					t.Errorf("Earliest(%d): %d", i, got)
				}
				for _, ops := range someRows {
					for _, now := range []int{0, -1, horizon + 1} {
						wantErrno(t, "Release", b.r.Release(i, ops, now), api.ErrRange)
					}
				}
			}
			b.same()
		}
	}
}

// Of a task without a job each call tells ErrState, or nothing, whatever else is wrong: ahead of all releases, and behind an end; and nothing has changed.
func TestNoJob(t *testing.T) {
	for section := range 4 {
		// The one uses nothing, and may not ask; both others may.
		b := bothOf(t, api.Task{Period: 9, Deadline: 9, Bound: 9}, task(9, 9, 9, 0, 1), task(9, 8, 8, 0, 1))
		wantNothing(t, b.r, 0, api.ErrState)
		b.wants(b.release(1, 3, run(1)), b.release(2, 4, run(1)))
		b.goes(1, section).goes(2, local)
		b.end(2)
		b.same()
		wantNothing(t, b.r, 0, api.ErrState)
		wantNothing(t, b.r, 2, api.ErrState)
		b.same()
		if got := b.r.Earliest(2); got != 13 {
			t.Errorf("Earliest(2): %d", got)
		}
	}
}

// P18.1 to P18.6: of several errors at once that is told which the chapter names first.
func TestOrderOfErrors(t *testing.T) {
	x := task(9, 9, 9, 0, 1, 2, 3, 4)
	x.Locks = 1
	no := x
	no.Global = 0
	b := bothOf(t, x, no, x)
	b.wants(b.release(0, 0, run(9)), b.release(1, 0, run(9)))
	// A section of what is shared is told ahead of what the stack would tell.
	b.wants(b.ask(0))
	for _, resource := range append([]int{0, 5}, numbers...) {
		wantErrno(t, "Lock", b.lock(0, resource), api.ErrNest)
	}
	// Four are locked, one of them is asked for, and one that is not used.
	b.wants(b.lock(1, 0), b.lock(1, 1), b.lock(1, 2), b.lock(1, 3))
	wantErrno(t, "Lock", b.lock(1, 5), api.ErrUse)
	wantErrno(t, "Lock", b.lock(1, 2), api.ErrHeld)
	wantErrno(t, "Lock", b.lock(1, 4), api.ErrNest)
	// Its Global is 0, and it is in a section.
	wantErrno(t, "Ask", b.ask(1), api.ErrUse)
	// It is in a section, and its Locks are used up; and then the latter alone.
	b.wants(b.hold(0))
	wantErrno(t, "Ask", b.ask(0), api.ErrNest)
	b.wants(b.give(0), b.lock(0, 4))
	wantErrno(t, "Ask", b.ask(0), api.ErrNest)
	b.wants(b.unlock(0))
	wantErrno(t, "Ask", b.ask(0), api.ErrBound)
	// A job is there; the tick is wrong; the acts are; it is too early.
	bad := slices.Repeat([]api.Op{run(0)}, 33)
	wantErrno(t, "Release", b.release(0, -1, bad...), api.ErrBusy)
	b.end(0)
	wantErrno(t, "Release", b.release(0, -1, bad...), api.ErrArg)
	wantErrno(t, "Release", b.release(0, horizon+1, bad...), api.ErrOver)
	wantErrno(t, "Release", b.release(0, 0, bad...), api.ErrLimit)
	wantErrno(t, "Release", b.release(0, 0, bad[:1]...), api.ErrArg)
	wantErrno(t, "Release", b.release(0, 0), api.ErrEarly)
}

// P18.6: an error changes nothing: each call that is answered one, of each task, in each state of some, and what is done behind that.
func TestErrorChangesNothing(t *testing.T) {
	everyState(t, func(b *both) {
		for range 2 {
			for i := -1; i <= 2; i++ {
				for call := range callLock + 4 {
					if call != callEnd && b.mayFail(call, i) {
						b.any(call, i)
					}
				}
				for _, ops := range someRows {
					if b.m.lacks(i) != api.ErrState {
						b.release(i, 50, ops...)
					}
				}
			}
		}
		for _, i := range []int{1, 0} {
			for _, call := range []int{callHold, callRun, callDid, callGive, callUnlock, callAsk} {
				b.any(call, i)
			}
			b.end(i)
		}
	})
}

// mayFail tells whether a call, not End, of a task is answered an error as things stand, as the model says.
func (b *both) mayFail(call, i int) bool {
	if b.m.lacks(i) != api.OK {
		return true
	}
	section := b.m.section(i)
	op, is := b.m.jobs[i].Next()
	switch call {
	case callDid:
		return !is || op.Kind == api.OpRun
	case callRun:
		return !is || op.Kind != api.OpRun || section == wait
	case callUnlock:
		return len(b.m.held(i)) == 0
	case callAsk:
		return section == local || section == global || b.m.jobs[i].Takes() == b.m.tasks[i].Locks
	case callHold:
		return section != wait
	case callGive:
		return section != global
	}
	return b.m.mayLock(i, call-callLock) != api.OK
}
