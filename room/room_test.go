package room_test

import (
	"fmt"
	"math"
	"slices"
	"testing"

	"escapement/api"
	"escapement/room"
)

// wantErrno fails the test unless a call answers that error.
func wantErrno(t *testing.T, call string, got, want api.Errno) {
	t.Helper()
	if got != want {
		t.Errorf("%s: %d, not %d", call, got, want)
	}
}

// wantWho fails the test unless that task goes on; -1: nobody.
func wantWho(t *testing.T, r *room.Room, want int) {
	t.Helper()
	if got, is := r.Who(); is != (want >= 0) || got != max(want, 0) {
		t.Errorf("Who(): %d, %t, not %d", got, is, want)
	}
}

// wantSole fails the test unless that task's job is in that section; -1: none.
func wantSole(t *testing.T, r *room.Room, task, section int) {
	t.Helper()
	if got, in, is := r.Sole(); is != (task >= 0) || got != max(task, 0) || in != section {
		t.Errorf("Sole(): %d, %d, %t, not %d, %d", got, in, is, task, section)
	}
}

// wantList fails the test unless these are answered.
func wantList(t *testing.T, call string, got []int, want ...int) {
	t.Helper()
	if !slices.Equal(got, want) {
		t.Errorf("%s: %v, not %v", call, got, want)
	}
}

// example is the chapter's tasks.
func example() []api.Task {
	return []api.Task{
		{Period: 20, Deadline: 10, Bound: 4, Locals: 1},
		{Period: 30, Deadline: 20, Bound: 6, Locals: 1, Local: 3},
	}
}

// P18.1 to P18.5: the chapter's examples.
func TestExamples(t *testing.T) {
	r := made(t, example())
	wantErrno(t, "Release(1)", r.Release(1, []api.Op{lock(0), run(3), of(api.OpUnlock), run(3)}, 0), api.OK)
	wantWho(t, r, 1)
	wantErrno(t, "Lock(1, 0)", r.Lock(1, 0), api.OK)
	wantErrno(t, "Did(1)", r.Did(1), api.OK)

	wantErrno(t, "Release(0)", r.Release(0, []api.Op{run(2)}, 1), api.OK)
	wantList(t, "Jobs()", r.Jobs(), 0, 1)
	wantWho(t, r, 1)

	for range 3 {
		wantErrno(t, "Run(1)", r.Run(1), api.OK)
	}
	wantErrno(t, "Unlock(1)", r.Unlock(1), api.OK)
	wantErrno(t, "Did(1)", r.Did(1), api.OK)
	wantWho(t, r, 0)

	wantErrno(t, "Release(0)", r.Release(0, []api.Op{run(2)}, 25), api.ErrBusy)
	if !r.End(0) {
		t.Error("End(0): false")
	}
	wantErrno(t, "Release(0)", r.Release(0, []api.Op{run(2)}, 15), api.ErrEarly)
	wantErrno(t, "Release(0)", r.Release(0, []api.Op{run(2)}, 21), api.OK)
	if got := r.Earliest(0); got != 41 {
		t.Errorf("Earliest(0): %d", got)
	}
}

// P18.1: a room of no task, of one, and so on up to four: it has no jobs.
func TestNew(t *testing.T) {
	for many := range api.MaxTasks + 1 {
		r := made(t, slices.Repeat([]api.Task{task(9, 8, 7)}, many))
		wantWho(t, r, -1)
		wantSole(t, r, -1, none)
		wantList(t, "Jobs()", r.Jobs())
		for i := range many {
			if got := r.Earliest(i); got != 0 {
				t.Errorf("Earliest(%d): %d", i, got)
			}
			wantErrno(t, "Release", r.Release(i, nil, 0), api.OK)
		}
		wantErrno(t, "Release", r.Release(many, nil, 0), api.ErrRange)
		if got := len(r.Jobs()); got != many {
			t.Errorf("%d jobs of %d tasks", got, many)
		}
	}
	for _, none := range [][]api.Task{nil, {}} {
		r := made(t, none)
		wantErrno(t, "Release(0)", r.Release(0, nil, 0), api.ErrRange)
		wantWho(t, r, -1)
	}
}

// far are numbers that a task is looked at as it is.
var far = []int{math.MinInt, -(1 << 32), -1, 0, 1, 255, 1 << 32, math.MaxInt}

// P18.1: tasks of which each may be asked, whatever else they say; and such as may not, in each place.
func TestTasks(t *testing.T) {
	for _, n := range far {
		made(t, []api.Task{{Period: 64, Deadline: 64, Bound: 64, Locals: n, Local: n, Global: n, Long: n, Locks: n}})
	}
	for _, bad := range []api.Task{{}, task(0, 1, 1), task(65, 1, 1), task(5, 0, 1), task(5, 6, 1), task(5, 5, 0), task(5, 4, 5), task(-1, -1, -1), task(math.MaxInt, 1, 1), task(5, math.MinInt, 1)} {
		for many := 1; many <= api.MaxTasks; many++ {
			for at := range many {
				l := slices.Repeat([]api.Task{task(9, 8, 7)}, many)
				l[at] = bad
				wantNoRoom(t, l)
			}
		}
	}
	for _, many := range []int{5, 6, 8, 64, 1000, 100000} {
		wantNoRoom(t, slices.Repeat([]api.Task{task(9, 8, 7)}, many))
		wantNoRoom(t, make([]api.Task, many))
	}
}

// wantNoRoom fails the test unless New answers no room, but ErrArg.
func wantNoRoom(t *testing.T, tasks []api.Task) {
	t.Helper()
	r, e := room.New(tasks)
	if r != nil || e != api.ErrArg {
		t.Errorf("New of %d tasks: %v, %d", len(tasks), r, e)
	}
	// Nobody can do anything with what is answered.
	wantErrno(t, "Release", r.Release(0, nil, 0), api.ErrNil)
}

// P18.1: a task that has a job, whatever else is wrong; and none of it is another one's.
func TestReleaseBusy(t *testing.T) {
	b := bothOf(t, task(5, 5, 5), task(7, 4, 2))
	b.wants(b.release(0, 10, run(3)))
	for _, now := range []int{9, 10, 14, 15, 100, -1, horizon + 1, math.MinInt, math.MaxInt} {
		for _, ops := range [][]api.Op{nil, {run(1)}, {run(0)}, slices.Repeat([]api.Op{run(1)}, 33)} {
			wantErrno(t, "Release(0)", b.release(0, now, ops...), api.ErrBusy)
		}
	}
	b.wants(b.release(1, 10, run(1)))
	wantErrno(t, "Release(1)", b.release(1, 20, run(1)), api.ErrBusy)
	b.end(0)
	wantErrno(t, "Release(0)", b.release(0, 14, run(1)), api.ErrEarly)
	b.wants(b.release(0, 15, run(1)))
}

// P18.1: one tick ahead of the guard's earliest tick, at it, and behind it; each task has a guard of its own.
func TestReleaseEarly(t *testing.T) {
	for _, period := range []int{1, 2, 5, 63, 64} {
		for _, behind := range []int{0, 1, 2, 1000} {
			b := bothOf(t, task(period, 1, 1), task(64, 1, 1))
			b.wants(b.release(0, 3, run(1)))
			b.end(0)
			wantErrno(t, "Release(0)", b.release(0, 3+period-1, run(1)), api.ErrEarly)
			wantErrno(t, "Release(0)", b.release(0, 0, run(1)), api.ErrEarly)
			b.wants(b.release(1, 0), b.release(0, 3+period+behind, run(1)))
			b.end(0)
			wantErrno(t, "Release(0)", b.release(0, 3+2*period+behind-1, run(1)), api.ErrEarly)
			b.wants(b.release(0, 3+2*period+behind, run(1)))
		}
	}
}

// P18.1, P18.5: a now below 0, at MaxTick, and one above it; a job's deadline may lie behind the horizon.
func TestReleaseNow(t *testing.T) {
	for _, now := range []int{0, 1, horizon - 1, horizon} {
		b := bothOf(t, task(64, 64, 1), task(64, 63, 1))
		b.wants(b.release(0, now, run(1)), b.release(1, now, run(1)))
		wantList(t, "Jobs()", b.r.Jobs(), 1, 0)
		if got, is := b.r.Deadline(0); got != now+64 || !is {
			t.Errorf("Deadline(0) of %d: %d, %t", now, got, is)
		}
		if got := b.r.Earliest(0); got != now+64 {
			t.Errorf("Earliest(0) of %d: %d", now, got)
		}
	}
	b := bothOf(t, task(64, 64, 1))
	for now, e := range map[int]api.Errno{-1: api.ErrArg, -64: api.ErrArg, math.MinInt: api.ErrArg, horizon + 1: api.ErrOver, horizon + 64: api.ErrOver, math.MaxInt: api.ErrOver} {
		wantErrno(t, fmt.Sprint("Release at ", now), b.release(0, now, run(1)), e)
	}
	b.wants(b.release(0, horizon, run(1)))
	b.end(0)
	// The guard's earliest tick is beyond the horizon.
	wantErrno(t, "Release(0)", b.release(0, horizon, run(1)), api.ErrEarly)
	wantErrno(t, "Release(0)", b.release(0, horizon+64, run(1)), api.ErrOver)
}

// P18.1, P18.6: an error of the job's, or of the guard's, leaves the guard: the next job may be released when it might have been.
func TestReleaseErrorLeavesGuard(t *testing.T) {
	bad := map[api.Errno][][]api.Op{
		api.ErrArg:   {{run(0)}, {run(1), lock(8)}, {{Kind: 9}}, {{Kind: api.OpSend, S: "12345678901234567"}}},
		api.ErrLimit: {slices.Repeat([]api.Op{run(1)}, 33), slices.Repeat([]api.Op{run(0)}, 34)},
	}
	b := bothOf(t, task(10, 9, 8))
	b.wants(b.release(0, 7, run(1)))
	b.end(0)
	for e, rows := range bad {
		for _, ops := range rows {
			// The job's error is told ahead of ErrEarly.
			for _, now := range []int{0, 16, 17, 18, 500} {
				wantErrno(t, "Release(0)", b.release(0, now, ops...), e)
			}
			wantErrno(t, "Release(0)", b.release(0, -1, ops...), api.ErrArg)
			wantErrno(t, "Release(0)", b.release(0, horizon+1, ops...), api.ErrOver)
		}
	}
	for _, now := range []int{16, 0, 7} {
		wantErrno(t, "Release(0)", b.release(0, now, run(1)), api.ErrEarly)
	}
	wantWho(t, b.r, -1)
	b.wants(b.release(0, 17, run(1)))
}

// P18.1, P18.2: rows of any length, to their ends; a job without acts is there till it is ended.
func TestRows(t *testing.T) {
	for _, many := range []int{0, 1, 2, 31, 32} {
		b := bothOf(t, task(64, 64, 64))
		b.wants(b.release(0, 2, slices.Repeat([]api.Op{lock(7), run(2)}, 16)[:many]...))
		for n := range many {
			if n%2 == 0 {
				wantErrno(t, "Run(0)", b.run(0), api.ErrState)
				b.wants(b.did(0))
			} else {
				wantErrno(t, "Did(0)", b.did(0), api.ErrState)
				b.wants(b.run(0), b.run(0))
			}
		}
		if op, is := b.r.Next(0); is {
			t.Errorf("Next(0) behind %d acts: %v", many, op)
		}
		wantErrno(t, "Run(0)", b.run(0), api.ErrState)
		wantErrno(t, "Did(0)", b.did(0), api.ErrState)
		wantWho(t, b.r, 0)
		b.end(0)
	}
}

// P18.2: what is next is told of each task on its own, as it goes on, and so is a fault.
func TestNextAndFault(t *testing.T) {
	b := bothOf(t, api.Task{Period: 9, Deadline: 9, Bound: 3, Locals: 1, Local: 1, Global: 1, Long: 2, Locks: 1}, task(9, 5, 1))
	b.wants(b.release(0, 0, run(2), lock(0), run(5)), b.release(1, 0, run(3)))
	b.wants(b.run(0), b.run(0), b.lock(0, 0), b.did(0), b.run(1))
	for i, op := range []api.Op{run(5), run(2)} {
		if got, is := b.r.Next(i); got != op || !is {
			t.Errorf("Next(%d): %v, %t", i, got, is)
		}
	}
	wantFault := func(i, now, want int) {
		t.Helper()
		if got := b.r.Fault(i, now); got != want {
			t.Errorf("Fault(%d, %d): %d, not %d", i, now, got, want)
		}
	}
	wantFault(0, 4, 0)
	wantFault(1, 4, api.FaultBound)
	wantFault(1, 5, api.FaultDeadline)
	b.wants(b.run(0))
	wantFault(0, 5, api.FaultBound)
	wantFault(0, 9, api.FaultDeadline)
	b.end(0)
	wantFault(0, 9, 0)
	b.wants(b.release(0, 9, run(3)), b.lock(0, 0), b.run(0))
	wantFault(0, 10, api.FaultSection)
	b.wants(b.unlock(0))
	wantFault(0, 10, 0)
	b.wants(b.ask(0))
	wantErrno(t, "Run(0)", b.run(0), api.ErrState)
	wantFault(0, 10, 0)
	b.wants(b.hold(0), b.run(0))
	wantFault(0, 11, 0)
}

// inSection is a room of one task that uses all, whose job is in a section.
func inSection(t *testing.T, section int) *both {
	t.Helper()
	b := bothOf(t, task(64, 64, 64, 0, 1, 2, 3, 4, 5, 6, 7), task(64, 32, 9))
	b.wants(b.release(0, 0, run(9)))
	return b.goes(0, section)
}

// P18.3: a Lock in each section, of what the task uses, of what it does not, of what is locked, and of none.
func TestLockInEachSection(t *testing.T) {
	for section, want := range []map[int]api.Errno{
		none:   {0: api.OK, 7: api.OK, 8: api.ErrUse, -1: api.ErrUse, math.MaxInt: api.ErrUse},
		local:  {0: api.ErrHeld, 7: api.OK, 8: api.ErrUse, -1: api.ErrUse, math.MinInt: api.ErrUse},
		global: {0: api.ErrNest, 7: api.ErrNest, 8: api.ErrNest, -1: api.ErrNest},
		wait:   {0: api.ErrNest, 7: api.ErrNest, 8: api.ErrNest, -1: api.ErrNest},
	} {
		for resource, e := range want {
			b := inSection(t, section)
			wantErrno(t, fmt.Sprintf("in %d: Lock(0, %d)", section, resource), b.lock(0, resource), e)
		}
	}
}

// P18.3: what the other task has locked, and what a task does not use, which is told first.
func TestLockHeld(t *testing.T) {
	b := bothOf(t, task(9, 9, 9, 0, 1), task(8, 8, 8, 1, 2))
	b.wants(b.release(0, 0, run(1)), b.release(1, 0, run(1)))
	b.wants(b.lock(0, 1))
	wantErrno(t, "Lock(1, 1)", b.lock(1, 1), api.ErrHeld)
	wantErrno(t, "Lock(0, 1)", b.lock(0, 1), api.ErrHeld)
	wantErrno(t, "Lock(0, 2)", b.lock(0, 2), api.ErrUse)
	wantErrno(t, "Lock(1, 0)", b.lock(1, 0), api.ErrUse)
	// The error has let it be in no section: it may ask for what is shared.
	b.wants(b.ask(1))
	b.wants(b.unlock(0), b.lock(0, 1), b.lock(0, 0))
}

// P18.3: four, one in the other, and no more; what is locked is told ahead of that.
func TestLockDepth(t *testing.T) {
	b := inSection(t, none)
	b.wants(b.lock(0, 3), b.lock(0, 0), b.lock(0, 7), b.lock(0, 1))
	for _, r := range []int{2, 4, 5, 6} {
		wantErrno(t, "Lock", b.lock(0, r), api.ErrNest)
	}
	wantErrno(t, "Lock", b.lock(0, 7), api.ErrHeld)
	wantErrno(t, "Lock", b.lock(0, 8), api.ErrUse)
	b.wants(b.unlock(0), b.lock(0, 2))
	wantList(t, "Held(0)", b.r.Held(0), 3, 0, 7, 2)
}

// P18.3: a section is one from the first Lock to the last Unlock: its ticks are counted on by a second Lock, and begin anew behind that.
func TestOutermost(t *testing.T) {
	b := bothOf(t, api.Task{Period: 64, Deadline: 64, Bound: 64, Locals: 3, Local: 3})
	b.wants(b.release(0, 0, run(60)))
	wantErrno(t, "Unlock(0)", b.unlock(0), api.ErrFree)
	for range 3 {
		b.wants(b.run(0), b.lock(0, 0), b.run(0), b.lock(0, 1), b.run(0), b.unlock(0))
		wantList(t, "Held(0)", b.r.Held(0), 0)
		if got := b.r.Fault(0, 9); got != 0 {
			t.Errorf("Fault behind two ticks: %d", got)
		}
		b.wants(b.run(0))
		if got := b.r.Fault(0, 9); got != api.FaultSection {
			t.Errorf("Fault behind three ticks: %d", got)
		}
		wantErrno(t, "Ask(0)", b.ask(0), api.ErrUse)
		b.wants(b.unlock(0))
		wantList(t, "Held(0)", b.r.Held(0))
		if got := b.r.Fault(0, 9); got != 0 {
			t.Errorf("Fault behind the section: %d", got)
		}
		wantErrno(t, "Unlock(0)", b.unlock(0), api.ErrFree)
	}
}

// P18.3: an Unlock in each section; one that has nothing leaves the section that it is in.
func TestUnlockInEachSection(t *testing.T) {
	for section, want := range []api.Errno{none: api.ErrFree, local: api.OK, global: api.ErrFree, wait: api.ErrFree} {
		b := inSection(t, section)
		wantErrno(t, "Unlock(0)", b.unlock(0), want)
		switch section {
		case global, wait:
			wantSole(t, b.r, 0, section)
		default:
			b.wants(b.ask(0))
		}
	}
}

// P18.3: what others have locked stays, and whose it is.
func TestUnlockOwn(t *testing.T) {
	b := bothOf(t, task(9, 9, 9, 0, 1), task(8, 8, 8, 1, 2))
	b.wants(b.release(0, 0, run(1)), b.release(1, 0, run(1)))
	b.wants(b.lock(0, 1), b.lock(1, 2), b.lock(0, 0))
	b.wants(b.unlock(0), b.unlock(1))
	wantErrno(t, "Unlock(1)", b.unlock(1), api.ErrFree)
	wantList(t, "Held(0)", b.r.Held(0), 1)
	b.wants(b.unlock(0))
}

// P18.4: an Ask, a Hold and a Give in each section.
func TestSharedInEachSection(t *testing.T) {
	for section, want := range [][3]api.Errno{
		none:   {api.OK, api.ErrFree, api.ErrFree},
		local:  {api.ErrNest, api.ErrFree, api.ErrFree},
		global: {api.ErrNest, api.ErrFree, api.OK},
		wait:   {api.OK, api.OK, api.ErrFree},
	} {
		b := inSection(t, section)
		wantErrno(t, fmt.Sprintf("in %d: Ask(0)", section), b.ask(0), want[0])
		if want[0] == api.OK {
			wantSole(t, b.r, 0, wait)
		}
		b = inSection(t, section)
		wantErrno(t, fmt.Sprintf("in %d: Hold(0)", section), b.hold(0), want[1])
		if want[1] == api.OK {
			wantSole(t, b.r, 0, global)
		}
		b = inSection(t, section)
		wantErrno(t, fmt.Sprintf("in %d: Give(0)", section), b.give(0), want[2])
		if want[2] == api.OK {
			wantSole(t, b.r, -1, none)
		}
	}
}

// P18.4: a task whose Global is 0 may not ask, whatever section its job is in; another one may, whatever its Global is.
func TestAskGlobal(t *testing.T) {
	for _, section := range []int{none, local} {
		b := bothOf(t, api.Task{Period: 9, Deadline: 9, Bound: 9, Locals: 1, Locks: 9}, task(9, 9, 9))
		b.wants(b.release(0, 0, run(1)))
		b.goes(0, section)
		wantErrno(t, "Ask(0)", b.ask(0), api.ErrUse)
		wantErrno(t, "Hold(0)", b.hold(0), api.ErrFree)
		wantErrno(t, "Give(0)", b.give(0), api.ErrFree)
	}
	for _, n := range far {
		b := bothOf(t, api.Task{Period: 9, Deadline: 9, Bound: 9, Global: n, Locks: 1})
		b.wants(b.release(0, 0, run(1)))
		want := api.OK
		if n == 0 {
			want = api.ErrUse
		}
		wantErrno(t, fmt.Sprint("Ask of Global ", n), b.ask(0), want)
	}
}

// P18.4: a job asks as often as its task's Locks says, and may ask again as long as it waits; the next job may as often again.
func TestAskLocks(t *testing.T) {
	for locks := range 4 {
		x := task(9, 9, 9, 0)
		x.Locks = locks
		b := bothOf(t, x)
		for job := range 3 {
			b.wants(b.release(0, 9*job, run(1)))
			for range locks {
				b.wants(b.ask(0), b.ask(0), b.ask(0), b.hold(0))
				wantErrno(t, "Ask(0)", b.ask(0), api.ErrNest)
				wantErrno(t, "Hold(0)", b.hold(0), api.ErrFree)
				b.wants(b.give(0))
			}
			wantErrno(t, "Ask(0)", b.ask(0), api.ErrBound)
			b.wants(b.lock(0, 0))
			wantErrno(t, "Ask(0)", b.ask(0), api.ErrNest)
			b.wants(b.unlock(0))
			b.end(0)
		}
	}
	for _, locks := range []int{math.MinInt, -1, 1 << 32, math.MaxInt} {
		x := task(9, 9, 9)
		x.Locks = locks
		b := bothOf(t, x)
		b.wants(b.release(0, 0, run(1)))
		want := api.ErrBound
		if locks > 0 {
			want = api.OK
		}
		wantErrno(t, fmt.Sprint("Ask of Locks ", locks), b.ask(0), want)
	}
}

// P18.5: the job that is ended is no more, whichever of the queue, and what it has locked is free; all others stay as they are, with what they have locked ahead of it, and behind it.
func TestEnd(t *testing.T) {
	for section := range 4 {
		for ended := range 3 {
			b := bothOf(t, task(9, 9, 9, 0, 1, 2, 3, 4), task(9, 9, 8, 0, 1, 2, 3, 4), task(9, 7, 7, 0, 1, 2, 3, 4))
			b.wants(b.release(0, 0, run(3)), b.release(1, 0, run(3)), b.release(2, 0, run(3)))
			one, other := (ended+1)%3, (ended+2)%3
			b.wants(b.lock(one, 4))
			b.goes(ended, section)
			b.goes(other, local)
			if section == local {
				b.wants(b.lock(ended, 3))
			}
			what := b.r.Held(ended)
			if !b.end(ended) || b.end(ended) {
				t.Error("End: not true, and then false")
			}
			wantList(t, "Held", b.r.Held(ended))
			wantErrno(t, "Run", b.run(ended), api.ErrState)
			wantSole(t, b.r, -1, none)
			if _, is := b.r.Deadline(ended); is || slices.Contains(b.r.Jobs(), ended) {
				t.Errorf("%d has a job: %v", ended, b.r.Jobs())
			}
			for _, resource := range what {
				b.wants(b.lock(other, resource))
			}
			b.wants(b.release(ended, 9, run(3)), b.ask(ended))
		}
	}
}

// P18.5: a job that is ended counts for nothing later: the next one of its task has not begun, is in no section, and has taken nothing.
func TestNextJob(t *testing.T) {
	b := bothOf(t, task(9, 9, 9, 0), task(20, 20, 9, 0))
	b.wants(b.release(0, 0, run(3)), b.run(0), b.ask(0), b.hold(0), b.run(0))
	b.end(0)
	b.wants(b.release(1, 1, run(5)), b.lock(1, 0), b.run(1), b.release(0, 10, run(2)))
	// It has not begun, so it waits for what the other one has locked.
	wantWho(t, b.r, 1)
	b.wants(b.unlock(1))
	wantWho(t, b.r, 0)
	if op, _ := b.r.Next(0); op != run(2) {
		t.Errorf("Next(0): %v", op)
	}
}

// P18.5: the least task of several is told, whichever of both sections it is in.
func TestSole(t *testing.T) {
	for sections := range 4 * 4 * 4 {
		b := bothOf(t, task(9, 9, 1, 0), task(9, 8, 1, 1), task(9, 7, 1, 2))
		task, section := -1, none
		for i := range 3 {
			in := sections >> (2 * i) & 3
			b.wants(b.release(i, 0, run(1)))
			b.goes(i, in)
			if task < 0 && in >= global {
				task, section = i, in
			}
		}
		wantSole(t, b.r, task, section)
		if task >= 0 {
			wantWho(t, b.r, task)
		}
	}
}

// P18.5: Jobs tells all tasks that have a job, by deadlines, and by tasks among the same ones.
func TestJobs(t *testing.T) {
	b := bothOf(t, task(20, 9, 1), task(20, 5, 1), task(20, 9, 1), task(20, 4, 1))
	b.wants(b.release(2, 0, run(1)), b.release(0, 0, run(1)))
	wantList(t, "Jobs()", b.r.Jobs(), 0, 2)
	b.wants(b.release(3, 6, run(1)), b.release(1, 4, run(1)))
	wantList(t, "Jobs()", b.r.Jobs(), 0, 1, 2, 3)
	b.end(1)
	wantList(t, "Jobs()", b.r.Jobs(), 0, 2, 3)
	b.end(0)
	b.wants(b.release(0, 20, run(1)))
	wantList(t, "Jobs()", b.r.Jobs(), 2, 3, 0)
}

// P18.6: what is handed in, with its spare room, is only read, and not kept: written over, it changes nothing.
func TestHandedIn(t *testing.T) {
	tasks := append(example(), task(9, 9, 9, 0), task(8, 8, 8, 1))
	as := slices.Clone(tasks)
	b := &both{t: t, r: made(t, tasks[:2]), m: modelOf(tasks[:2])}
	if !slices.Equal(tasks, as) {
		t.Errorf("New: %v", tasks)
	}
	other := slices.Repeat([]api.Task{{Period: 1, Deadline: 1, Bound: 1, Locals: 254, Global: 1, Locks: 5}}, len(tasks))
	copy(tasks, other)
	b.same()

	ops := []api.Op{lock(0), run(2), of(api.OpUnlock), {Kind: api.OpSend, N: 3, S: "s"}, run(9)}
	row := slices.Clone(ops)
	wantErrno(t, "Release(1)", b.r.Release(1, row[:4], 0), api.OK)
	b.wants(b.m.release(1, ops[:4], 0))
	if !slices.Equal(row, ops) {
		t.Errorf("Release: %v", row)
	}
	written := slices.Repeat([]api.Op{of(api.OpRecv)}, len(row))
	copy(row, written)
	b.same()

	b.wants(b.lock(1, 0), b.did(1), b.release(0, 1, run(2)))
	wantWho(t, b.r, 1)
	b.wants(b.run(1), b.run(1), b.unlock(1), b.did(1), b.did(1))
	b.end(0)
	wantErrno(t, "Release(0)", b.release(0, 20, run(1)), api.ErrEarly)
	b.wants(b.release(0, 21, run(1)))
	wantErrno(t, "Ask(0)", b.ask(0), api.ErrUse)
	if !slices.Equal(tasks, other) || !slices.Equal(row, written) {
		t.Errorf("written: %v, %v", tasks, row)
	}
}

// P18.6: what is answered is new memory: written over, up to its spare room, it changes nothing.
func TestAnsweredIsNew(t *testing.T) {
	b := bothOf(t, task(9, 9, 9, 0, 1, 2), task(9, 8, 8, 3, 4))
	b.wants(b.release(0, 0, run(1)), b.release(1, 0, run(1)), b.lock(0, 1), b.lock(0, 0), b.lock(1, 3))
	for range 3 {
		for _, l := range [][]int{b.r.Jobs(), b.r.Held(0), b.r.Held(1)} {
			l = l[:cap(l)]
			for i := range l {
				l[i] = 77
			}
			_ = append(l, 77)
		}
		b.same()
	}
	first, second := b.r.Jobs(), b.r.Jobs()
	first[0] = 77
	wantList(t, "Jobs()", second, 1, 0)
	first, second = b.r.Held(0), b.r.Held(0)
	first[0] = 77
	wantList(t, "Held(0)", second, 1, 0)
	b.wants(b.unlock(0), b.lock(0, 2))
	wantList(t, "what was answered", second, 1, 0)
}

// P18.6, R2: rooms of the same tasks are apart.
func TestApart(t *testing.T) {
	tasks := []api.Task{task(9, 9, 9, 0), task(9, 8, 8, 0)}
	one, other := bothOf(t, tasks...), bothOf(t, tasks...)
	one.wants(one.release(0, 3, run(4)), one.lock(0, 0), one.run(0), one.release(1, 4, run(1)))
	other.same()
	other.wants(other.release(1, 0, run(1)), other.lock(1, 0), other.release(0, 0, run(2)))
	one.same()
}
