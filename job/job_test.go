package job_test

import (
	"math"
	"math/rand"
	"slices"
	"testing"

	"escapement/api"
	"escapement/job"
)

// wantErrno fails the test unless a call answers that error.
func wantErrno(t *testing.T, call string, got, want api.Errno) {
	t.Helper()
	if got != want {
		t.Errorf("%s: %d, not %d", call, got, want)
	}
}

// wantNumber fails the test unless a call answers that number.
func wantNumber(t *testing.T, call string, got, want int) {
	t.Helper()
	if got != want {
		t.Errorf("%s: %d, not %d", call, got, want)
	}
}

// wantNext fails the test unless that act is next.
func wantNext(t *testing.T, j *job.Job, want api.Op) {
	t.Helper()
	if got, is := j.Next(); got != want || !is {
		t.Errorf("Next(): %v, %t, not %v", got, is, want)
	}
}

// wantIn fails the test unless a job is in that section, and has run in it for so many ticks.
func wantIn(t *testing.T, j *job.Job, section, ticks int) {
	t.Helper()
	if got, ran := j.In(); got != section || ran != ticks {
		t.Errorf("In(): %d, %d, not %d, %d", got, ran, section, ticks)
	}
}

// wantNoJob fails the test unless New answers no job, but that error.
func wantNoJob(t *testing.T, task api.Task, ops []api.Op, now int, want api.Errno) {
	t.Helper()
	if j, e := job.New(task, ops, now); j != nil || e != want {
		t.Errorf("New(%v, %d acts, %d): %v, %d, not %d", task, len(ops), now, j, e, want)
	}
}

// P17.1 to P17.5: the chapter's examples.
func TestExamples(t *testing.T) {
	task := api.Task{Period: 10, Deadline: 8, Bound: 3, Local: 1, Long: 2, Locks: 1}
	j := made(t, task, []api.Op{lock(0), run(2), of(api.OpUnlock), of(api.OpTake), run(1)}, 5)
	wantNumber(t, "Deadline()", j.Deadline(), 13)
	wantNext(t, j, lock(0))
	wantNumber(t, "Fault(5)", j.Fault(5), 0)

	wantErrno(t, "Did()", j.Did(), api.OK)
	wantErrno(t, "Enter(1)", j.Enter(1), api.OK)
	wantErrno(t, "Run()", j.Run(), api.OK)
	wantNumber(t, "Fault(6)", j.Fault(6), 2)

	wantErrno(t, "Leave()", j.Leave(), api.OK)
	wantErrno(t, "Run()", j.Run(), api.OK)
	wantErrno(t, "Did()", j.Did(), api.OK)
	wantNext(t, j, of(api.OpTake))
	wantErrno(t, "Enter(3)", j.Enter(3), api.OK)
	wantErrno(t, "Enter(2)", j.Enter(2), api.OK)
	wantErrno(t, "Did()", j.Did(), api.OK)
	wantErrno(t, "Run()", j.Run(), api.OK)
	if !j.Done() {
		t.Error("Done(): false")
	}
	wantNumber(t, "Fault(20)", j.Fault(20), 0)
	wantNumber(t, "Takes()", j.Takes(), 1)
	wantNumber(t, "Ran()", j.Ran(), 3)
	wantIn(t, j, global, 1)
}

// P17.1: a job that has not begun is in no section, whatever its row.
func TestNew(t *testing.T) {
	for _, ops := range [][]api.Op{nil, {}, {run(1)}, {lock(7)}, times(run(64), 32), times(of(api.OpGive), 32)} {
		j := made(t, taskOf(9, 8, 7), ops, 3)
		if j.Begun() || j.Done() != (len(ops) == 0) {
			t.Errorf("%v: Begun() %t, Done() %t", ops, j.Begun(), j.Done())
		}
		wantIn(t, j, none, 0)
		wantNumber(t, "Ran()", j.Ran(), 0)
		wantNumber(t, "Takes()", j.Takes(), 0)
		wantNumber(t, "Deadline()", j.Deadline(), 11)
	}
}

// P17.1: every Period, Deadline and Bound about the edges, and all between.
func TestTask(t *testing.T) {
	for period := -1; period <= 66; period++ {
		for deadline := -1; deadline <= 66; deadline++ {
			for bound := -1; bound <= 66; bound++ {
				want := api.OK
				if period < 1 || period > 64 || deadline < 1 || deadline > period || bound < 1 || bound > deadline {
					want = api.ErrArg
				}
				j, e := job.New(taskOf(period, deadline, bound), nil, 0)
				if e != want || (j != nil) != (want == api.OK) {
					t.Fatalf("%d/%d/%d: %v, %d, not %d", period, deadline, bound, j, e, want)
				}
			}
		}
	}
	for _, far := range []int{math.MinInt, math.MinInt + 1, -(1 << 32) + 1, 1 << 32, 1<<32 + 1, 1<<32 + 64, math.MaxInt - 1, math.MaxInt} {
		for _, task := range []api.Task{taskOf(far, 1, 1), taskOf(64, far, 1), taskOf(64, 64, far), taskOf(far, far, 1), taskOf(64, far, far), taskOf(far, far, far)} {
			wantNoJob(t, task, nil, 0, api.ErrArg)
		}
	}
}

// numbers are some that a task's Local, Long and Locks are looked at as they are.
var numbers = []int{math.MinInt, -(1 << 32), -65, -1, 0, 1, 2, 3, 4, 5, 64, 65, 4097, 1 << 32, math.MaxInt}

// P17.1: whatever Locals, Local, Global, Long and Locks are, the task may be asked.
func TestTaskAsItIs(t *testing.T) {
	for _, n := range numbers {
		for _, task := range []api.Task{{Locals: n}, {Local: n}, {Global: n}, {Long: n}, {Locks: n}, {Locals: n, Local: n, Global: n, Long: n, Locks: n}} {
			task.Period, task.Deadline, task.Bound = 6, 5, 4
			made(t, task, []api.Op{run(1)}, 0)
		}
	}
}

// P17.1, P17.5: a now at each end of what may be, and its deadline, which may be behind the horizon.
func TestNow(t *testing.T) {
	for _, now := range []int{0, 1, 2, 1 << 32, horizon - 64, horizon - 1, horizon} {
		for _, deadline := range []int{1, 2, 63, 64} {
			j := made(t, taskOf(64, deadline, 1), []api.Op{run(1)}, now)
			wantNumber(t, "Deadline()", j.Deadline(), now+deadline)
		}
	}
	for _, now := range []int{-1, -2, -64, -(1 << 32), -horizon, math.MinInt, math.MinInt + 1} {
		wantNoJob(t, taskOf(5, 5, 5), nil, now, api.ErrArg)
	}
	for _, now := range []int{horizon + 1, horizon + 2, horizon + 64, 2 * horizon, math.MaxInt - 64, math.MaxInt - 1, math.MaxInt} {
		wantNoJob(t, taskOf(5, 5, 5), nil, now, api.ErrOver)
	}
}

// P17.1, P17.2: rows of each length up to 32, to their ends; of 33 there is none.
func TestRows(t *testing.T) {
	for many := range api.MaxOps + 1 {
		for _, op := range []api.Op{run(1), run(2), lock(7), {Kind: api.OpSend, N: 7, S: "0123456789abcdef"}, {Kind: api.OpLater, N: 64}} {
			b := bothOf(t, taskOf(64, 64, 64), times(op, many), 4)
			ticks := many
			if op == run(2) {
				ticks = 2 * many
			}
			b.steps(ticks)
			if !b.j.Done() {
				t.Errorf("%d of %v: Done(): false", many, op)
			}
			wantErrno(t, "Did()", b.did(), api.ErrState)
			wantErrno(t, "Run()", b.run(), api.ErrState)
		}
	}
	wantNoJob(t, taskOf(64, 64, 64), times(run(1), 33), 4, api.ErrLimit)
	made(t, taskOf(64, 64, 64), times(run(1), 33)[1:], 4)
}

// P17.2, P17.5: a job has begun behind an act, or a tick, and not sooner.
func TestBegun(t *testing.T) {
	task := api.Task{Period: 9, Deadline: 9, Bound: 9, Locks: 5}
	for _, op := range []api.Op{run(2), lock(0), of(api.OpTake), of(api.OpUnlock), of(api.OpGive), {Kind: api.OpSend}, {Kind: api.OpRecv}, {Kind: api.OpLater, N: 3}} {
		b := bothOf(t, task, []api.Op{op, run(1)}, 0)
		// The one call is wrong here; and a section is no act.
		if op.Kind == api.OpRun {
			wantErrno(t, "Did()", b.did(), api.ErrState)
		} else {
			wantErrno(t, "Run()", b.run(), api.ErrState)
		}
		b.enters(local, none, global, none, wait)
		wantErrno(t, "Run()", b.run(), api.ErrState)
		b.enters(none)
		if b.j.Begun() {
			t.Errorf("%v: Begun() ahead of it", op)
		}
		b.steps(1)
		if !b.j.Begun() {
			t.Errorf("%v: not Begun() behind it", op)
		}
	}
}

// P17.2, P17.5: a tick counts for the job, and for its section, each of which begins with none.
func TestTicksInSections(t *testing.T) {
	task := api.Task{Period: 64, Deadline: 64, Bound: 64, Locks: 9}
	b := bothOf(t, task, times(run(2), 32), 0)
	b.steps(3)
	wantIn(t, b.j, none, 3)
	b.enters(local)
	wantIn(t, b.j, local, 0)
	b.steps(4)
	wantIn(t, b.j, local, 4)
	b.enters(none)
	wantIn(t, b.j, none, 0)
	b.enters(wait)
	wantIn(t, b.j, wait, 0)
	b.enters(global)
	b.steps(5)
	wantIn(t, b.j, global, 5)
	b.enters(none, global)
	wantIn(t, b.j, global, 0)
	b.steps(1)
	wantIn(t, b.j, global, 1)
	b.enters(none, local)
	wantIn(t, b.j, local, 0)
	b.steps(2)
	wantIn(t, b.j, local, 2)
	wantNumber(t, "Ran()", b.j.Ran(), 15)
	wantNumber(t, "Takes()", b.j.Takes(), 2)
}

// P17.2: an act that is no tick counts for no section.
func TestActsInSections(t *testing.T) {
	for _, section := range []int{none, local, global, wait} {
		b := bothOf(t, api.Task{Period: 9, Deadline: 9, Bound: 9, Locks: 1}, []api.Op{lock(0), of(api.OpTake), {Kind: api.OpLater, N: 7}}, 0)
		if section != none {
			b.enters(section)
		}
		b.steps(3)
		wantIn(t, b.j, section, 0)
		wantNumber(t, "Ran()", b.j.Ran(), 0)
	}
}

// inSection is a job in a section, that has run in it for no tick.
func inSection(t *testing.T, section int, task api.Task, ops ...api.Op) *both {
	t.Helper()
	task.Period, task.Deadline = 64, 64
	b := bothOf(t, task, ops, 10)
	if section != none {
		b.enters(section)
	}
	return b
}

// P17.3: from each section into each, and into numbers of none.
func TestEachSectionIntoEach(t *testing.T) {
	may := map[[2]int]bool{{none, local}: true, {none, global}: true, {none, wait}: true, {wait, global}: true}
	for from := range 4 {
		for _, section := range sections {
			b := inSection(t, from, api.Task{Bound: 9, Locks: 2}, run(5))
			if from != wait {
				b.steps(2)
			}
			_, ticks := b.j.In()
			takes, want := b.j.Takes(), api.ErrNest
			switch {
			case section < 1 || section > 3:
				want = api.ErrArg
			case may[[2]int{from, section}]:
				want = api.OK
			}
			wantErrno(t, "Enter", b.enter(section), want)
			switch {
			case want != api.OK:
				wantIn(t, b.j, from, ticks)
			case section != local && from == none:
				takes++
				fallthrough
			default:
				wantIn(t, b.j, section, 0)
			}
			wantNumber(t, "Takes()", b.j.Takes(), takes)
		}
	}
}

// P17.3: out of each section, and none of them twice.
func TestLeave(t *testing.T) {
	for _, from := range []int{none, local, global, wait} {
		b := inSection(t, from, api.Task{Bound: 9, Locks: 2}, run(5))
		if from != wait {
			b.steps(1)
		}
		if from == none {
			wantErrno(t, "Leave()", b.leave(), api.ErrFree)
			wantIn(t, b.j, none, 1)
			continue
		}
		takes := b.j.Takes()
		wantErrno(t, "Leave()", b.leave(), api.OK)
		wantIn(t, b.j, none, 0)
		wantNumber(t, "Takes()", b.j.Takes(), takes)
		wantErrno(t, "Leave()", b.leave(), api.ErrFree)
	}
}

// P17.3: it takes as often as Locks says, by way of waiting or at once; what is locked in its partition does not count.
func TestLocks(t *testing.T) {
	for _, locks := range []int{0, 1, 2, 3, 7} {
		for ways := range 1 << locks {
			b := inSection(t, none, api.Task{Bound: 9, Locks: locks}, run(5))
			for n := range locks {
				switch {
				case ways>>n&1 == 0:
					b.enters(global, none)
				case n%2 == 0:
					b.enters(wait, global, none)
				default:
					// Who waits, and does so no more, has taken, too.
					b.enters(wait, none)
				}
				b.enters(local, none)
				wantNumber(t, "Takes()", b.j.Takes(), n+1)
			}
			wantErrno(t, "Enter(2)", b.enter(global), api.ErrBound)
			wantErrno(t, "Enter(3)", b.enter(wait), api.ErrBound)
			b.enters(local)
			wantErrno(t, "Enter(2)", b.enter(global), api.ErrNest)
			wantErrno(t, "Enter(3)", b.enter(wait), api.ErrNest)
			wantNumber(t, "Takes()", b.j.Takes(), locks)
		}
	}
}

// P17.3: Locks below 0 lets it take nothing; a great one as often as it likes.
func TestLocksAsTheyAre(t *testing.T) {
	for _, locks := range numbers {
		b := inSection(t, none, api.Task{Bound: 9, Locks: locks}, run(5))
		if locks <= 0 {
			wantErrno(t, "Enter(2)", b.enter(global), api.ErrBound)
			wantErrno(t, "Enter(3)", b.enter(wait), api.ErrBound)
			b.enters(local)
			wantNumber(t, "Takes()", b.j.Takes(), 0)
			continue
		}
		for range min(locks, 100) {
			b.enters(wait, global, none)
		}
		wantNumber(t, "Takes()", b.j.Takes(), min(locks, 100))
	}
}

// P17.3: from SectionWait into SectionGlobal, though Locks is used up; likewise what may not be is told ahead of that.
func TestLocksUsedUp(t *testing.T) {
	for locks := 1; locks <= 3; locks++ {
		b := inSection(t, none, api.Task{Bound: 9, Locks: locks}, run(5))
		for range locks - 1 {
			b.enters(global, none)
		}
		b.enters(wait)
		wantErrno(t, "Enter(3)", b.enter(wait), api.ErrNest)
		wantErrno(t, "Enter(1)", b.enter(local), api.ErrNest)
		wantErrno(t, "Enter(4)", b.enter(4), api.ErrArg)
		wantErrno(t, "Enter(0)", b.enter(none), api.ErrArg)
		wantErrno(t, "Enter(2)", b.enter(global), api.OK)
		wantErrno(t, "Enter(2)", b.enter(global), api.ErrNest)
		wantErrno(t, "Enter(4)", b.enter(4), api.ErrArg)
		b.enters(none)
		wantErrno(t, "Enter(-1)", b.enter(-1), api.ErrArg)
		wantErrno(t, "Enter(2)", b.enter(global), api.ErrBound)
		wantNumber(t, "Takes()", b.j.Takes(), locks)
	}
}

// P17.2: who waits does not run, whatever is next, but does other acts.
func TestRunWaiting(t *testing.T) {
	for _, ops := range [][]api.Op{nil, {run(1)}, {run(64), run(1)}, {of(api.OpTake), run(1)}, {lock(0)}} {
		b := inSection(t, wait, api.Task{Bound: 9, Locks: 1}, ops...)
		for range 3 {
			wantErrno(t, "Run()", b.run(), api.ErrState)
			wantIn(t, b.j, wait, 0)
		}
		if len(ops) > 0 && ops[0].Kind != api.OpRun {
			wantErrno(t, "Did()", b.did(), api.OK)
			wantErrno(t, "Run()", b.run(), api.ErrState)
		}
		b.enters(global)
		if op, is := b.j.Next(); is && op.Kind == api.OpRun {
			wantErrno(t, "Run()", b.run(), api.OK)
		}
	}
}

// P17.6: an error changes nothing: each call that answers one, again and again, in each section, at each step of rows.
func TestErrorChangesNothing(t *testing.T) {
	rows := [][]api.Op{nil, {run(2)}, {lock(0), run(2), of(api.OpUnlock)}, {run(1), of(api.OpTake), run(1), of(api.OpGive), run(1)}}
	for _, ops := range rows {
		for _, locks := range []int{-1, 0, 1, 2, 3} {
			for _, way := range [][]int{{}, {local}, {global}, {wait}, {global, none}, {wait, none, local}, {wait, global}, {wait, none, wait}} {
				b := bothOf(t, api.Task{Period: 4, Deadline: 3, Bound: 2, Local: 1, Long: 1, Locks: locks}, ops, 7)
				for {
					b.errors()
					if len(way) == 0 || !b.goes(way[0]) {
						break
					}
					way = way[1:]
				}
				for !b.j.Done() && b.m.entering(global) != api.OK {
					b.errors()
					if b.did() != api.OK && b.run() != api.OK {
						break
					}
				}
				b.errors()
			}
		}
	}
}

// goes goes into a section, or out of it, if it may.
func (b *both) goes(section int) bool {
	if section == none {
		return b.leave() == api.OK
	}
	return b.enter(section) == api.OK
}

// errors does all calls, twice, that are answered an error as things stand.
func (b *both) errors() {
	section, _ := b.m.in()
	op, is := b.m.row.Next()
	for range 2 {
		if !is || op.Kind == api.OpRun {
			wantErrno(b.t, "Did()", b.did(), api.ErrState)
		}
		if !is || op.Kind != api.OpRun || section == wait {
			wantErrno(b.t, "Run()", b.run(), api.ErrState)
		}
		if section == none {
			wantErrno(b.t, "Leave()", b.leave(), api.ErrFree)
		}
		for _, to := range sections {
			if want := b.m.entering(to); want != api.OK {
				wantErrno(b.t, "Enter", b.enter(to), want)
			}
		}
	}
}

// P17.6: what is handed in, with its spare room, is only read, and not kept: written over behind New, it changes nothing.
func TestHandedIn(t *testing.T) {
	random := rand.New(rand.NewSource(176))
	for many := range api.MaxOps + 1 {
		for _, spare := range []int{0, 1, 40} {
			ops := anyRow(random, many, 2)
			whole := slices.Concat(ops, times(lock(6), spare))
			as := slices.Clone(whole)
			b := bothOf(t, taskOf(64, 64, 64), ops, 3)
			b.j = made(t, taskOf(64, 64, 64), whole[:many], 3)
			if !slices.Equal(whole, as) {
				t.Fatalf("New: %v, not %v", whole, as)
			}
			for i := range whole {
				whole[i] = of(api.OpRecv)
			}
			b.same()
			for !b.j.Done() {
				b.steps(1)
			}
			if !slices.Equal(whole, times(of(api.OpRecv), many+spare)) {
				t.Fatalf("Did and Run: %v", whole)
			}
		}
	}
}

// P17.6: two jobs of the same acts are apart.
func TestApart(t *testing.T) {
	ops := []api.Op{run(3), lock(1), run(2)}
	task := api.Task{Period: 9, Deadline: 9, Bound: 9, Locks: 1}
	first, other := bothOf(t, task, ops, 0), bothOf(t, task, ops, 0)
	first.enters(wait, global)
	first.steps(4)
	other.same()
	other.steps(1)
	other.enters(local)
	first.same()
	if !slices.Equal(ops, []api.Op{run(3), lock(1), run(2)}) {
		t.Errorf("acts: %v", ops)
	}
}

// P17.7: a job that is driven as long as it has no fault has run for no more than its Bound, in a section for no more than its task says, and has taken no more often than Locks says: told by the answers alone.
func TestDriven(t *testing.T) {
	random := rand.New(rand.NewSource(177))
	full := map[string]int{}
	for range 6000 {
		task := anyTask(random, 0)
		ops := anyRow(random, random.Intn(api.MaxOps+1), 1+random.Intn(4))
		now := random.Intn(1 << random.Intn(41))
		j := made(t, task, ops, now)
		most := map[int]int{none: task.Bound, local: task.Local, global: task.Long}
		for calls := 0; calls < 400 && j.Fault(now+random.Intn(task.Deadline)) == 0; calls++ {
			switch call := random.Intn(9); call {
			case 0:
				j.Leave()
			case 1, 2, 3:
				j.Enter(call)
			default:
				if j.Run() != api.OK {
					j.Did()
				}
			}
			section, ticks := j.In()
			if j.Ran() > task.Bound || ticks > most[section] || j.Takes() > task.Locks {
				t.Fatalf("%v: Ran() %d, In() %d, %d, Takes() %d", task, j.Ran(), section, ticks, j.Takes())
			}
			if j.Ran() == task.Bound {
				full["bound"]++
			}
			if section == local && ticks > 0 && ticks == task.Local {
				full["local"]++
			}
			if section == global && ticks > 0 && ticks == task.Long {
				full["global"]++
			}
			if task.Locks > 0 && j.Takes() == task.Locks {
				full["locks"]++
			}
		}
	}
	for _, what := range []string{"bound", "local", "global", "locks"} {
		if full[what] < 500 {
			t.Errorf("full: %v", full)
		}
	}
}
