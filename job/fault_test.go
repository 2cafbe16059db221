package job_test

import (
	"math"
	"testing"

	"escapement/api"
)

// wantFault fails the test unless that fault is told of a job, at a tick far from its deadline.
func wantFault(t *testing.T, b *both, want int) {
	t.Helper()
	wantFaultAt(t, b, b.m.at, want)
}

// wantFaultAt fails the test unless that fault is told of a job, at a tick.
func wantFaultAt(t *testing.T, b *both, now, want int) {
	t.Helper()
	if got := b.j.Fault(now); got != want {
		section, ticks := b.j.In()
		t.Errorf("%v %v, ran %d, in %d for %d: Fault(%d): %d, not %d", b.m.task, b.m.row.Rest(), b.j.Ran(), section, ticks, now, got, want)
	}
}

// P17.4: a tick ahead of the deadline, at it, and behind it, of a job with each act next, in each section.
func TestFaultDeadline(t *testing.T) {
	for _, at := range []int{0, 1, 100, horizon - 64, horizon} {
		for deadline := 1; deadline <= api.MaxTime; deadline++ {
			for _, ops := range [][]api.Op{{run(1)}, {lock(0)}, {of(api.OpTake), run(1)}, {of(api.OpGive)}, {{Kind: api.OpLater, N: 1}}} {
				for section := range 4 {
					b := bothOf(t, api.Task{Period: 64, Deadline: deadline, Bound: 1, Local: 1, Long: 1, Locks: 1}, ops, at)
					if section != none {
						b.enters(section)
					}
					due := at + deadline
					wantFaultAt(t, b, due-1, 0)
					wantFaultAt(t, b, due, 3)
					wantFaultAt(t, b, due+1, 3)
					wantFaultAt(t, b, math.MaxInt, 3)
					wantFaultAt(t, b, -1, 0)
					wantFaultAt(t, b, math.MinInt, 0)
				}
			}
		}
	}
}

// P17.4: for one tick less than its Bound, just that, and more, with ticks of OpRun left.
func TestFaultBound(t *testing.T) {
	for bound := 1; bound <= api.MaxTime; bound++ {
		b := bothOf(t, taskOf(64, 64, bound), []api.Op{run(64), run(3), lock(0)}, 9)
		for ran := range 64 + 3 {
			want := 0
			if ran >= bound {
				want = 1
			}
			wantFault(t, b, want)
			wantFaultAt(t, b, -1, want)
			wantFaultAt(t, b, math.MinInt, want)
			b.steps(1)
		}
		// None are left, and an act is next.
		wantFault(t, b, 0)
		b.steps(1)
		wantFault(t, b, 0)
	}
}

// P17.4: ticks of OpRun are left, though another act is next; an OpLater's are none.
func TestFaultBoundWhatIsLeft(t *testing.T) {
	for ran := 1; ran <= 5; ran++ {
		for _, next := range []api.Op{lock(0), of(api.OpUnlock), of(api.OpTake), of(api.OpGive), {Kind: api.OpSend}, {Kind: api.OpRecv}, {Kind: api.OpLater, N: 9}} {
			for _, last := range []api.Op{run(1), run(64), lock(1), {Kind: api.OpLater, N: 64}, of(api.OpTake)} {
				b := bothOf(t, taskOf(64, 64, 3), []api.Op{run(ran), next, last}, 9).steps(ran)
				want := 0
				if ran >= 3 && last.Kind == api.OpRun {
					want = 1
				}
				wantFault(t, b, want)
				b.steps(1)
				wantFault(t, b, want)
			}
		}
	}
}

// nexts are acts of each kind.
var nexts = []api.Op{run(1), run(5), lock(0), of(api.OpUnlock), of(api.OpTake), of(api.OpGive), {Kind: api.OpSend, S: "s"}, {Kind: api.OpRecv}, {Kind: api.OpLater, N: 4}}

// P17.4: in SectionGlobal for one tick less than Long says, just as many, and more, whatever act is next; by way of waiting, or at once.
func TestFaultGlobal(t *testing.T) {
	for long := range 6 {
		for ticks := range 9 {
			for _, next := range nexts {
				for _, way := range [][]int{{global}, {wait, global}} {
					ops := append(ticksOf(ticks), next)
					b := inSection(t, none, api.Task{Bound: 64, Local: 0, Long: long, Locks: 1}, ops...).enters(way...).steps(ticks)
					wantIn(t, b.j, global, ticks)
					want := 0
					if ticks >= long {
						want = 2
					}
					wantFault(t, b, want)
					wantFaultAt(t, b, -1, want)
				}
			}
		}
	}
}

// P17.4: in SectionLocal likewise, but with an OpRun next alone.
func TestFaultLocal(t *testing.T) {
	for most := range 6 {
		for ticks := range 9 {
			for _, next := range nexts {
				b := inSection(t, local, api.Task{Bound: 64, Local: most, Long: 0, Locks: 1}, append(ticksOf(ticks), next)...).steps(ticks)
				wantIn(t, b.j, local, ticks)
				want := 0
				if ticks >= most && next.Kind == api.OpRun {
					want = 2
				}
				wantFault(t, b, want)
				wantFaultAt(t, b, -1, want)
			}
		}
	}
}

// ticksOf is an OpRun of so many ticks, or none.
func ticksOf(n int) []api.Op {
	if n == 0 {
		return nil
	}
	return []api.Op{run(n)}
}

// P17.4: Local and Long below 0, and great ones, as they are.
func TestFaultSectionAsItIs(t *testing.T) {
	for _, n := range numbers {
		for _, section := range []int{local, global} {
			b := inSection(t, section, api.Task{Bound: 64, Local: n, Long: n, Locks: 1}, run(10))
			for ticks := range 10 {
				want := 0
				if ticks >= n {
					want = 2
				}
				wantFault(t, b, want)
				b.steps(1)
			}
			wantFault(t, b, 0)
		}
	}
}

// P17.4: in no section, and in SectionWait, none is told, whatever Local and Long are, and whatever is next.
func TestFaultInNone(t *testing.T) {
	for _, next := range nexts {
		task := api.Task{Bound: 64, Local: -1, Long: -1, Locks: 1}
		b := inSection(t, none, task, run(7), next)
		wantFault(t, b, 0)
		b.steps(7)
		wantFault(t, b, 0)
		b.enters(wait)
		wantFault(t, b, 0)
		b.enters(none)
		wantFault(t, b, 0)
	}
}

// P17.4: what it has run ahead of its section, or in an earlier one, does not count.
func TestFaultSectionAnew(t *testing.T) {
	for _, section := range []int{local, global} {
		b := inSection(t, none, api.Task{Bound: 64, Local: 2, Long: 2, Locks: 9}, run(40)).steps(5)
		for range 4 {
			b.enters(section)
			wantFault(t, b, 0)
			b.steps(1)
			wantFault(t, b, 0)
			b.steps(1)
			wantFault(t, b, 2)
			b.steps(1)
			wantFault(t, b, 2)
			b.enters(none)
			wantFault(t, b, 0)
			b.steps(3)
			wantFault(t, b, 0)
		}
	}
}

// P17.4: where several hold, that of the deadline is told ahead of that of the Bound, and this ahead of that of the section.
func TestFaultOrder(t *testing.T) {
	for _, section := range []int{local, global} {
		task := api.Task{Bound: 3, Local: 1, Long: 1, Locks: 1}
		b := inSection(t, section, task, run(3), run(4), lock(0))
		due := b.j.Deadline()
		wantFaultAt(t, b, due-1, 0)
		wantFaultAt(t, b, due, 3)
		b.steps(1)
		wantFaultAt(t, b, due-1, 2)
		wantFaultAt(t, b, due, 3)
		b.steps(2)
		wantFaultAt(t, b, due-1, 1)
		wantFaultAt(t, b, due, 3)
		wantFaultAt(t, b, math.MinInt, 1)
		b.steps(4)
		// No tick is left, but an act.
		want := 2
		if section == local {
			want = 0
		}
		wantFaultAt(t, b, due-1, want)
		wantFaultAt(t, b, due, 3)
		b.enters(none)
		wantFaultAt(t, b, due-1, 0)
		wantFaultAt(t, b, due, 3)
	}
}

// P17.4: a job with no act left has no fault: late, behind its Bound, and in each section for longer than its task says.
func TestDoneHasNoFault(t *testing.T) {
	for _, section := range []int{none, local, global} {
		for _, ops := range [][]api.Op{nil, {run(1)}, {run(2)}, {run(3)}, {run(64)}, {run(2), lock(0)}, {lock(0)}} {
			for _, most := range []int{-1, 0, 1, 64} {
				b := inSection(t, section, api.Task{Bound: 2, Local: most, Long: most, Locks: 1}, ops...)
				for !b.j.Done() {
					b.steps(1)
				}
				for _, now := range b.m.nows() {
					wantFaultAt(t, b, now, 0)
				}
			}
		}
	}
	b := inSection(t, wait, api.Task{Bound: 1, Local: -1, Long: -1, Locks: 1})
	wantFaultAt(t, b, b.j.Deadline(), 0)
}
