package gate_test

import (
	"math/rand"
	"slices"
	"testing"

	"escapement/api"
	"escapement/gate"
)

// job is one that is played: when it must be complete, and how many ticks are left of it.
type job struct{ deadline, left int }

// played is a partition that is played: what is left of its budget, the tick at which its period ends, from which tick on each task may release its next job, and its jobs.
type played struct {
	api.Part
	left, ends int
	next       []int
	jobs       []job
}

// joins is a partition that is in from a tick on.
func joins(p api.Part, tick int) played {
	s := played{Part: p, ends: tick}
	for range p.Tasks {
		s.next = append(s.next, tick)
	}
	return s
}

// turn begins a period, if one ends at a tick; it tells whether the server had run for its whole budget in that.
func (s *played) turn(tick int) bool {
	if tick != s.ends {
		return true
	}
	whole := s.left == 0
	s.left, s.ends = s.Budget, tick+s.Period
	return whole
}

// release is a job of each task that may, if it does so now.
func (s *played) release(tick int, now func() bool) {
	for i, x := range s.Tasks {
		if tick >= s.next[i] && now() {
			s.jobs = append(s.jobs, job{tick + x.Deadline, x.Bound})
			s.next[i] = tick + x.Period
		}
	}
}

// late tells whether some job isn't complete by its deadline.
func (s *played) late(tick int) bool {
	return slices.ContainsFunc(s.jobs, func(j job) bool { return j.deadline <= tick })
}

// run is a tick of the server: the job with the least deadline goes on.
func (s *played) run() {
	s.left--
	first := -1
	for i, j := range s.jobs {
		if first < 0 || j.deadline < s.jobs[first].deadline {
			first = i
		}
	}
	if first < 0 {
		return
	}
	if s.jobs[first].left--; s.jobs[first].left == 0 {
		s.jobs = slices.Delete(s.jobs, first, first+1)
	}
}

// goesOn plays a tick of partitions: the one with budget left whose period ends first runs, the first one of several. It tells what was not kept.
func goesOn(list []played, tick int, now func() bool) (fault string) {
	first := -1
	for i := range list {
		s := &list[i]
		if !s.turn(tick) {
			return "a budget"
		}
		if s.late(tick) {
			return "a deadline"
		}
		s.release(tick, now)
		if s.left > 0 && (first < 0 || s.ends < list[first].ends) {
			first = i
		}
	}
	if first >= 0 {
		list[first].run()
	}
	return ""
}

// lets is a rule by which a task releases a job that it may: in one of so many ticks.
func lets(random *rand.Rand, ticks int) func() bool {
	return func() bool { return random.Intn(ticks) == 0 }
}

// wantPlayed plays those of a configuration that are in, which begin at once, or anywhere up to a tick, and release their jobs as soon as they may, or later; it fails the test unless all budgets and all deadlines are kept.
func wantPlayed(t *testing.T, c api.Config, in []bool, random *rand.Rand) {
	for _, latest := range []int{0, 20} {
		for _, ticks := range []int{1, 3} {
			var begins []int
			var list []played
			for i, is := range in {
				if is {
					begin := random.Intn(latest + 1)
					begins, list = append(begins, begin), append(list, joins(c.Parts[i], begin))
				}
			}
			now := lets(random, ticks)
			for tick := range 400 {
				if fault := goesOn(list, tick, now); fault != "" {
					t.Fatalf("%v, %v pass, but from %v on %s isn't kept, at %d", c, in, begins, fault, tick)
				}
			}
		}
	}
}

// P12.6: partitions that pass, played tick by tick: servers keep their budgets, and tasks their deadlines.
func TestPlay(t *testing.T) {
	random := rand.New(rand.NewSource(126))
	pass, tasks := 0, 0
	for i := range 400 {
		many := 1 + i%api.MaxParts
		c := someConfig(random, many)
		for _, in := range everyWho(many) {
			if !passes(c, in) {
				continue
			}
			wantPlayed(t, c, in, random)
			for j, is := range in {
				pass += count(is)
				tasks += count(is && len(c.Parts[j].Tasks) > 0)
			}
		}
	}
	if pass < 1000 || tasks < 300 {
		t.Errorf("%d %d", pass, tasks)
	}
}

// P12.2, P12.6: partitions that join one behind the other, while those that are in go on, if they can: all keep their budgets and their deadlines.
func TestPlayJoins(t *testing.T) {
	random := rand.New(rand.NewSource(127))
	var joined [api.MaxParts + 1]int
	for i := range 1000 {
		c := someConfig(random, api.MaxParts)
		in := who(api.MaxParts)
		var list []played
		now := lets(random, 1+i%3)
		for tick := range 400 {
			part := random.Intn(api.MaxParts)
			if tick%16 == random.Intn(16) && !in[part] && gate.Join(c, in, part) == api.OK {
				in[part] = true
				list = append(list, joins(c.Parts[part], tick))
			}
			if fault := goesOn(list, tick, now); fault != "" {
				t.Fatalf("%v, %v: all that joined could, but %s isn't kept, at %d", c, in, fault, tick)
			}
		}
		joined[len(list)]++
	}
	for many, n := range joined[1:] {
		if n < 10 {
			t.Errorf("%d have joined %d times", many+1, n)
		}
	}
}

// P12.3, P12.6: what has passed with a change is played with it.
func TestPlayChanges(t *testing.T) {
	random := rand.New(rand.NewSource(128))
	changed := 0
	for range 1200 {
		c := someConfig(random, 1+random.Intn(api.MaxParts))
		in := who(len(c.Parts), 0)
		for i := range in {
			in[i] = in[i] || random.Intn(2) == 0
		}
		part := random.Intn(len(in))
		period := upTo(random, 16)
		got, e := gate.Change(c, in, part, period, upTo(random, period))
		if e == api.OK && in[part] {
			wantPlayed(t, got, in, random)
			changed++
		}
	}
	if changed < 100 {
		t.Errorf("%d", changed)
	}
}

// P12.6: just all of one whole, and deadlines that leave nothing, played.
func TestPlayTight(t *testing.T) {
	random := rand.New(rand.NewSource(129))
	for _, c := range []api.Config{
		config(part(1, 2, task(4, 4, 1)), part(1, 4, task(16, 11, 2)), part(1, 4, task(14, 14, 2))),
		config(part(1, 1, task(2, 1, 1), task(4, 3, 1))),
		config(part(2, 5, task(20, 12, 3)), part(3, 5, task(10, 10, 4))),
		config(part(16, 64), part(16, 64, task(64, 64, 1)), part(31, 62), part(1, 1, task(8, 8, 8))),
	} {
		in := who(len(c.Parts))
		for i := range in {
			in[i] = gate.Join(c, in, i) == api.OK
		}
		if !in[0] || !passes(c, in) {
			t.Errorf("%v, %v", c, in)
		}
		for range 20 {
			wantPlayed(t, c, in, random)
		}
	}
}
