package room_test

import (
	"testing"

	"escapement/api"
)

// P18.2: nobody goes on without jobs: of a new room, and when all are ended.
func TestWhoWithoutJobs(t *testing.T) {
	b := bothOf(t, task(9, 9, 9, 0), task(9, 8, 8, 0))
	wantWho(t, b.r, -1)
	for section := range 4 {
		b.wants(b.release(1, 9*section, run(1)))
		b.goes(1, section)
		wantWho(t, b.r, 1)
		b.end(1)
		wantWho(t, b.r, -1)
	}
}

// P18.2: with nothing locked it is the queue's first one, begun or not; the lesser task of the same deadlines.
func TestWhoFirst(t *testing.T) {
	b := bothOf(t, task(20, 9, 1), task(20, 9, 1), task(20, 5, 1))
	b.wants(b.release(1, 0, run(5)))
	wantWho(t, b.r, 1)
	b.wants(b.run(1))
	wantWho(t, b.r, 1)
	b.wants(b.release(0, 0, run(5)))
	wantWho(t, b.r, 0)
	b.wants(b.release(2, 4, run(5)))
	wantWho(t, b.r, 0)
	b.end(0)
	wantWho(t, b.r, 1)
	b.end(1)
	wantWho(t, b.r, 2)
	// A job that is done is there as long as it isn't ended.
	b.wants(b.run(2), b.run(2), b.run(2), b.run(2), b.run(2))
	wantWho(t, b.r, 2)
}

// P18.2: the first one goes on, if its level is above the ceiling of what is locked; at that, and below it, it is the task at the top of the stack.
func TestWhoCeiling(t *testing.T) {
	// The levels are 1, 2, 3 and 4, and so are the ceilings of 0 to 3.
	tasks := []api.Task{task(60, 40, 1, 0, 1, 2, 3), task(60, 30, 1, 1, 2, 3), task(60, 20, 1, 2, 3), task(60, 10, 1, 3)}
	for resource := range 4 {
		for first := 1; first < 4; first++ {
			b := bothOf(t, tasks...)
			b.wants(b.release(0, 0, run(9)), b.lock(0, resource), b.run(0), b.release(first, 1, run(1)))
			want := 0
			if first > resource {
				want = first
			}
			wantWho(t, b.r, want)
			// Ahead of it a second one of any lower ceiling counts for nothing, but a higher one does.
			for second := range 4 {
				if second == resource {
					continue
				}
				b.wants(b.lock(0, second))
				want := 0
				if first > max(resource, second) {
					want = first
				}
				wantWho(t, b.r, want)
				b.wants(b.unlock(0))
			}
			b.wants(b.unlock(0))
			wantWho(t, b.r, first)
		}
	}
}

// P18.2: of a task with the same Deadline, whose job comes first as the lesser one, the level is no higher than the ceiling of what the other one uses.
func TestWhoSameLevel(t *testing.T) {
	b := bothOf(t, task(9, 9, 9), task(9, 9, 9, 0))
	b.wants(b.release(1, 0, run(2)), b.lock(1, 0), b.release(0, 0, run(2)))
	wantWho(t, b.r, 1)
	b.wants(b.unlock(1))
	wantWho(t, b.r, 0)
}

// P18.2: a first one that has begun goes on, whatever the ceiling is: it has done an act, or run; what it has locked or asked for is no such thing.
func TestWhoBegun(t *testing.T) {
	for _, first := range []api.Op{run(2), lock(1), of(api.OpTake)} {
		b := bothOf(t, task(60, 40, 9, 0), task(60, 20, 9, 0))
		b.wants(b.release(0, 0, run(9)), b.release(1, 1, first, run(1)), b.lock(0, 0))
		wantWho(t, b.r, 0)
		b.wants(b.ask(1), b.hold(1), b.give(1))
		wantWho(t, b.r, 0)
		if first == run(2) {
			b.wants(b.run(1))
		} else {
			b.wants(b.did(1))
		}
		wantWho(t, b.r, 1)
	}
}

// P18.2: the top of the stack is who locked last of what is locked, not who is second in the queue.
func TestWhoTop(t *testing.T) {
	b := bothOf(t, task(60, 40, 9, 0), task(60, 30, 9, 1), task(60, 20, 9, 2), task(60, 10, 9, 0, 1, 2))
	b.wants(b.release(0, 0, run(9)), b.lock(0, 0), b.release(1, 0, run(9)), b.lock(1, 1), b.release(2, 0, run(9)), b.lock(2, 2), b.release(3, 0, run(9)))
	wantWho(t, b.r, 2)
	b.wants(b.unlock(1))
	wantWho(t, b.r, 2)
	b.wants(b.unlock(2))
	wantWho(t, b.r, 0)
	b.wants(b.lock(1, 1))
	wantWho(t, b.r, 1)
	b.end(1)
	wantWho(t, b.r, 0)
	b.end(0)
	wantWho(t, b.r, 3)
}

// P18.2: a job in SectionGlobal, or in SectionWait, goes on, whatever the queue's first one is, and whatever is locked.
func TestWhoShares(t *testing.T) {
	for _, section := range []int{global, wait} {
		for _, begun := range []bool{false, true} {
			b := bothOf(t, task(60, 40, 9, 0), task(60, 30, 9, 0), task(60, 20, 9, 0), task(60, 10, 9, 1))
			b.wants(b.release(1, 0, run(9)))
			b.goes(1, section)
			b.wants(b.release(0, 0, run(9)), b.lock(0, 0), b.release(2, 0, run(9)), b.release(3, 0, run(9)))
			if begun {
				b.wants(b.run(0), b.run(2), b.run(3))
			}
			wantWho(t, b.r, 1)
			b.wants(b.lock(3, 1))
			wantWho(t, b.r, 1)
			if section == wait {
				b.wants(b.hold(1))
				wantWho(t, b.r, 1)
			}
			b.wants(b.give(1))
			wantWho(t, b.r, 3)
		}
	}
}

// P18.2: of several in SectionGlobal or SectionWait, which who goes on alone does not make, the least task goes on, as Sole tells.
func TestWhoSharesOfSeveral(t *testing.T) {
	for _, l := range [][2]int{{global, wait}, {wait, global}, {wait, wait}, {global, global}} {
		b := bothOf(t, task(60, 40, 9), task(60, 30, 9), task(60, 10, 9))
		b.wants(b.release(0, 0, run(9)), b.release(1, 0, run(9)), b.release(2, 0, run(9)))
		b.goes(1, l[1]).goes(0, l[0])
		wantWho(t, b.r, 0)
		wantSole(t, b.r, 0, l[0])
		b.end(0)
		wantWho(t, b.r, 1)
		wantSole(t, b.r, 1, l[1])
		b.end(1)
		wantWho(t, b.r, 2)
	}
}
