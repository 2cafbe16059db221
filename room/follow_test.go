package room_test

import (
	"fmt"
	"math/rand"
	"slices"
	"testing"

	"escapement/api"
	"escapement/room"
)

// seen is what is known of a task's job by what calls have answered: the numbers of the events at which it was released, and at which it has entered its outermost section (0: it is in none); that of the section that has kept it waiting (0: none so far).
type seen struct{ released, entered, keptBy int }

// play is a room in which only who goes on does anything, told by the answers alone.
type play struct {
	t      *testing.T
	random *rand.Rand
	r      *room.Room
	tasks  []api.Task
	now    int
	events int
	kills  bool         // whether jobs are ended that do not go on, too
	seen   map[int]seen // of each task that has a job
	shares map[int]bool // those that are in SectionGlobal or SectionWait
	locked []int        // those that have locked something, one behind the other
	counts map[string]int
}

// playOf is one of some tasks that use few resources.
func playOf(t *testing.T, random *rand.Rand, counts map[string]int) *play {
	var tasks []api.Task
	resources := 1 + random.Intn(3)
	for range 2 + random.Intn(3) {
		period := 8 + random.Intn(57)
		deadline := 3 + random.Intn(period-2)
		tasks = append(tasks, api.Task{Period: period, Deadline: deadline, Bound: 1 + random.Intn(deadline), Locals: random.Intn(1 << resources), Local: 64, Global: random.Intn(3), Long: 64, Locks: 1 + random.Intn(4)})
	}
	if random.Intn(3) == 0 {
		// Some have the same Deadline, and so the same level.
		tasks[0].Deadline, tasks[0].Bound = tasks[1].Deadline, 1
		tasks[0].Period = max(tasks[0].Period, tasks[0].Deadline)
	}
	return &play{t: t, random: random, r: made(t, tasks), tasks: tasks, kills: random.Intn(2) == 0, seen: map[int]seen{}, shares: map[int]bool{}, counts: counts}
}

// event is the number of what happens now.
func (p *play) event() int {
	p.events++
	return p.events
}

// fail fails the test.
func (p *play) fail(what ...any) {
	p.t.Helper()
	p.t.Fatalf("%+v at %d: %s", p.tasks, p.now, fmt.Sprint(what...))
}

// releases releases jobs of some tasks that may.
func (p *play) releases() {
	for i := range p.tasks {
		if p.random.Intn(6) > 0 || p.r.Release(i, anyRow(p.random, 1+p.random.Intn(8)), p.now) != api.OK {
			continue
		}
		p.seen[i] = seen{released: p.event()}
	}
}

// changes changes what is known of a task's job.
func (p *play) changes(i int, to func(*seen)) {
	x := p.seen[i]
	to(&x)
	p.seen[i] = x
}

// enters notes that a job has entered a section.
func (p *play) enters(i int) {
	n := p.event()
	p.changes(i, func(x *seen) { x.entered = n })
}

// leaves notes that it has left it.
func (p *play) leaves(i int) {
	p.changes(i, func(x *seen) { x.entered = 0 })
	delete(p.shares, i)
	p.locked = slices.DeleteFunc(p.locked, func(other int) bool { return other == i })
}

// ends ends a job.
func (p *play) ends(i int) {
	if !p.r.End(i) {
		p.fail("End of ", i)
	}
	p.leaves(i)
	delete(p.seen, i)
}

// locks locks something, if it may: what its task uses is free, but for what it has itself.
func (p *play) locks(i int) {
	resource := p.random.Intn(3)
	own := p.r.Held(i)
	switch p.r.Lock(i, resource) {
	case api.OK:
		if len(own) == 0 {
			p.enters(i)
			p.locked = append(p.locked, i)
		}
		p.counts["locked"]++
	case api.ErrHeld:
		if !slices.Contains(own, resource) {
			p.fail(i, " does not find ", resource, " free, but has ", own)
		}
		p.counts["own"]++
	}
}

// does does any call of who goes on.
func (p *play) does(i int) {
	switch p.random.Intn(14) {
	case 0, 1, 2, 3, 4:
		p.locks(i)
	case 5, 6:
		if p.r.Unlock(i) == api.OK && len(p.r.Held(i)) == 0 {
			p.leaves(i)
		}
	case 7:
		if p.r.Ask(i) == api.OK && !p.shares[i] {
			p.enters(i)
			p.shares[i] = true
		}
	case 8:
		p.r.Hold(i)
	case 9, 10:
		if p.r.Give(i) == api.OK {
			p.leaves(i)
		}
	case 11:
		p.r.Did(i)
	case 12:
		p.r.Run(i)
	case 13:
		if p.random.Intn(3) == 0 {
			p.ends(i)
		}
	}
	p.wantOrder()
}

// deadline is a job's.
func (p *play) deadline(i int) int {
	tick, is := p.r.Deadline(i)
	if !is {
		p.fail("no job of ", i)
	}
	return tick
}

// wantOrder fails the test, if several jobs are in a section of what is shared, or one that locked later than another one comes behind it. (With the same deadline the queue tells which is earlier.)
func (p *play) wantOrder() {
	if len(p.shares) > 1 {
		p.fail("share: ", p.shares)
	}
	order := p.r.Jobs()
	for n := 1; n < len(p.locked); n++ {
		sooner, later := p.locked[n-1], p.locked[n]
		if p.deadline(later) > p.deadline(sooner) || slices.Index(order, later) > slices.Index(order, sooner) {
			p.fail(later, " has locked behind ", sooner, ", of ", order)
		}
		p.counts["behind"]++
	}
}

// goesOn is a tick of who goes on: the jobs with earlier deadlines that wait are kept waiting by its section alone.
func (p *play) goesOn() {
	who, is := p.r.Who()
	if is != (len(p.seen) > 0) {
		p.fail("Who(): ", who, is, " of ", p.seen)
	}
	if !is {
		return
	}
	by := p.seen[who]
	for i, x := range p.seen {
		if p.deadline(who) <= p.deadline(i) {
			continue
		}
		if by.entered == 0 || by.entered > x.released || x.keptBy != 0 && x.keptBy != by.entered {
			p.fail(who, " goes on, ", by, ", ", i, " waits, ", x)
		}
		p.changes(i, func(x *seen) { x.keptBy = by.entered })
		p.counts[p.kept()]++
	}
	p.r.Run(who)
}

// kept is in what who goes on keeps another job waiting.
func (p *play) kept() string {
	_, section, is := p.r.Sole()
	switch {
	case !is:
		return "kept by what is locked"
	case section == wait:
		return "kept by who waits"
	}
	return "kept by who shares"
}

// tick is one: jobs are released, who goes on does something, and then a tick goes by.
func (p *play) tick() {
	p.releases()
	for range p.random.Intn(4) {
		if who, is := p.r.Who(); is {
			p.does(who)
		}
	}
	p.goesOn()
	if l := p.r.Jobs(); p.kills && len(l) > 0 && p.random.Intn(20) == 0 {
		p.ends(l[p.random.Intn(len(l))])
		p.wantOrder()
	}
	p.now++
}

// P18.7, P18.8: when only who goes on does anything, what it locks is free, one at most shares anything, who locks later is the more urgent, and each job is kept waiting by one section that was entered ahead of its release. (Jobs may be ended by others, as a kernel does.)
func TestOnlyWhoGoesOn(t *testing.T) {
	random := rand.New(rand.NewSource(187))
	counts := map[string]int{}
	for range 5000 {
		p := playOf(t, random, counts)
		for range 150 {
			p.tick()
		}
	}
	for _, what := range []string{"locked", "own", "behind", "kept by what is locked", "kept by who shares", "kept by who waits"} {
		if counts[what] < 1000 {
			t.Errorf("%s: but %d of %v", what, counts[what], counts)
		}
	}
}
