package gate_test

import (
	"math/rand"
	"slices"
	"testing"

	"escapement/api"
	"escapement/gate"
)

// pqr are the chapter's partitions.
func pqr() api.Config {
	return config(part(1, 2), part(1, 2), part(1, 4))
}

// late is a partition that does not pass, whoever else is in: of 8 ticks in a row it may get but 4.
func late(budget, period int) api.Part {
	return part(budget, period, task(8, 8, 8))
}

// The chapter's examples.
func TestExamples(t *testing.T) {
	wantTest(t, pqr(), who(3, 0, 1), -1, 0, api.OK)
	wantTest(t, pqr(), who(3, 0, 1, 2), -1, 0, api.ErrRefused)
	wantJoin(t, pqr(), who(3, 0), 2, api.OK)
	wantJoin(t, pqr(), who(3, 0, 1), 2, api.ErrRefused)
	wantJoin(t, pqr(), who(3, 0, 1), 3, api.ErrRange)
	wantChange(t, pqr(), who(3, 0, 1), 1, 4, 2, api.OK)
	wantChange(t, pqr(), who(3, 0, 1), 1, 4, 3, api.ErrRefused)
	wantChange(t, pqr(), who(3, 0, 1), 1, 4, 5, api.ErrConf)
}

// DOC.md's seventh example of the whole: the third one is refused.
func TestExampleOfTheWhole(t *testing.T) {
	c, in := config(part(1, 2), part(1, 2), part(1, 4)), who(3)
	for i, want := range []api.Errno{api.OK, api.OK, api.ErrRefused} {
		wantJoin(t, c, in, i, want)
		in[i] = want == api.OK
	}
	wantPass(t, c, in)
}

// P12.1, P12.5: where nobody is in, one partition and four pass, even such as don't alone.
func TestNobodyIn(t *testing.T) {
	for _, p := range []api.Part{part(1, 1), part(64, 64), part(1, 4, task(20, 20, 2)), late(4, 8), part(1, 64, task(61, 1, 1), task(59, 1, 1))} {
		for many := 1; many <= api.MaxParts; many++ {
			wantPass(t, config(slices.Repeat([]api.Part{p}, many)...), who(many))
		}
	}
}

// P12.1: one partition, alone: it passes, or is refused where its tasks are, or is above a limit.
func TestOne(t *testing.T) {
	for _, r := range []struct {
		p        api.Part
		part, at int
		e        api.Errno
	}{
		{part(1, 1), -1, 0, api.OK},
		{part(64, 64), -1, 0, api.OK},
		{part(1, 64), -1, 0, api.OK},
		{part(2, 5, task(20, 12, 2)), -1, 0, api.OK},
		{part(2, 5, task(20, 12, 4)), 0, 12, api.ErrRefused},
		{part(2, 5, task(20, 12, 2), task(5, 5, 2)), 0, 0, api.ErrRefused},
		{part(4, 4, task(50, 50, 1), task(41, 41, 1)), 0, 0, api.ErrLimit},
	} {
		wantTest(t, config(r.p), who(1, 0), r.part, r.at, r.e)
		wantJoin(t, config(r.p), who(1), 0, r.e)
		wantJoin(t, config(r.p), who(1, 0), 0, r.e)
		wantChange(t, config(r.p), who(1, 0), 0, r.p.Period, r.p.Budget, r.e)
	}
}

// P12.1: four partitions, all in: just all of one whole, and one tick more of any of them.
func TestFour(t *testing.T) {
	c := config(part(4, 16, task(32, 32, 4)), part(1, 4), part(2, 8, task(24, 24, 2), task(48, 48, 2)), part(4, 16))
	all := who(4, 0, 1, 2, 3)
	wantPass(t, c, all)
	for i := range c.Parts {
		more := copied(c)
		more.Parts[i].Budget++
		wantTest(t, more, all, -1, 0, api.ErrRefused)
		for j := range more.Parts {
			wantTest(t, more, slices.Replace(slices.Clone(all), j, j+1, false), -1, 0, api.OK)
		}
	}
}

// sharing are two partitions that pass alone, but not the first one beside the second one, with which it shares something; a third one shares nothing with them.
func sharing() api.Config {
	return config(part(2, 4, takes(task(64, 30, 4), 1, 1, 1)), part(2, 8, takes(task(64, 64, 1), 1, 1, 1)), part(1, 8, takes(task(32, 32, 1), 2, 1, 1)))
}

// P12.1 to P12.3: a partition passes alone, and beside those that share nothing with it, but not beside one with which it shares something; one that is not in keeps nobody waiting.
func TestBeside(t *testing.T) {
	c := sharing()
	for _, in := range everyWho(3) {
		if in[0] && in[1] {
			wantTest(t, c, in, 0, 30, api.ErrRefused)
			continue
		}
		wantPass(t, c, in)
	}
	wantJoin(t, c, who(3, 1), 0, api.ErrRefused)
	wantJoin(t, c, who(3, 1), 2, api.OK)
	wantJoin(t, c, who(3, 0), 2, api.OK)
	wantChange(t, c, who(3, 0, 1), 1, 16, 4, api.ErrRefused)
	wantChange(t, c, who(3, 0), 1, 16, 4, api.OK)
	// With a shorter period of the other one the wait is short enough.
	wantChange(t, c, who(3, 0, 1), 1, 4, 1, api.OK)
}

// P12.1: of several that fail the first one is told, by its number in the configuration, not among those that are in; where, and with its own error.
func TestFirstThatFails(t *testing.T) {
	c := config(part(1, 4), part(1, 4, task(50, 50, 1), task(41, 41, 1)), part(1, 4, task(20, 12, 3)), part(1, 4, task(5, 5, 5)))
	fails := []struct {
		at int
		e  api.Errno
	}{{0, api.OK}, {0, api.ErrLimit}, {12, api.ErrRefused}, {0, api.ErrRefused}}
	for _, in := range everyWho(4) {
		first := 1
		for first < 4 && !in[first] {
			first++
		}
		if first == 4 {
			wantPass(t, c, in)
			continue
		}
		wantTest(t, c, in, first, fails[first].at, fails[first].e)
	}
	// The other way round: another one is the first.
	c = config(c.Parts[3], c.Parts[2], c.Parts[1], c.Parts[0])
	wantTest(t, c, who(4, 0, 1, 2, 3), 0, 0, api.ErrRefused)
	wantTest(t, c, who(4, 1, 2, 3), 1, 12, api.ErrRefused)
	wantTest(t, c, who(4, 2, 3), 2, 0, api.ErrLimit)
	wantPass(t, c, who(4, 3))
}

// P12.1: servers are tested ahead of all tasks.
func TestServersFirst(t *testing.T) {
	c := config(late(4, 8), part(5, 8, task(50, 50, 1), task(41, 41, 1)), part(1, 8))
	wantTest(t, c, who(3, 0, 1), -1, 0, api.ErrRefused)
	wantTest(t, c, who(3, 0, 1, 2), -1, 0, api.ErrRefused)
	wantTest(t, c, who(3, 0, 2), 0, 0, api.ErrRefused)
	wantTest(t, c, who(3, 1, 2), 1, 0, api.ErrLimit)
	wantPass(t, c, who(3, 2))
	wantJoin(t, c, who(3, 0), 1, api.ErrRefused)
	wantJoin(t, c, who(3), 1, api.ErrLimit)
	wantChange(t, c, who(3, 0, 1), 1, 8, 4, api.ErrRefused)
	wantChange(t, c, who(3, 1), 1, 8, 4, api.ErrLimit)
}

// P12.2: who is in already joins just if all that are in pass.
func TestJoinAgain(t *testing.T) {
	wantJoin(t, pqr(), who(3, 0, 1), 0, api.OK)
	wantJoin(t, pqr(), who(3, 0, 1), 1, api.OK)
	wantJoin(t, pqr(), who(3, 0, 1, 2), 1, api.ErrRefused)
	c := config(part(1, 4), late(4, 8))
	wantJoin(t, c, who(2, 0, 1), 0, api.ErrRefused)
	wantJoin(t, c, who(2, 0), 0, api.OK)
}

// P12.2: a join is refused for another one's sake, too: one that is in does not pass beside who joins, or not at all.
func TestJoinForOthers(t *testing.T) {
	c := sharing()
	wantJoin(t, c, who(3), 1, api.OK)
	wantJoin(t, c, who(3, 0), 1, api.ErrRefused)
	c.Parts[2] = late(1, 8)
	wantJoin(t, c, who(3), 1, api.OK)
	wantJoin(t, c, who(3, 2), 1, api.ErrRefused)
}

// P12.3: who is not in is not tested: neither with the others, nor its own tasks; nor are the others.
func TestChangeNotIn(t *testing.T) {
	wantChange(t, pqr(), who(3, 0, 1), 2, 1, 1, api.OK)
	wantChange(t, pqr(), who(3, 0, 1), 2, 64, 64, api.OK)
	wantChange(t, pqr(), who(3), 2, 2, 2, api.OK)
	wantChange(t, pqr(), who(3, 0, 1, 2), 2, 4, 1, api.ErrRefused)
	c := config(late(4, 8), part(1, 1), part(1, 1), part(4, 4, task(50, 50, 1), task(41, 41, 1)))
	wantChange(t, c, who(4, 1, 2), 0, 8, 1, api.OK)
	wantChange(t, c, who(4, 1, 2), 3, 8, 1, api.OK)
	wantChange(t, c, who(4, 0, 1, 2, 3), 0, 8, 1, api.ErrRefused)
}

// P12.3: a change to the period and the budget that it has is the configuration as it was, if those that are in pass.
func TestChangeToTheSame(t *testing.T) {
	c := pqr()
	c.Ports = []api.Port{sample(0, 1), queue(2, 1)}
	for part, p := range c.Parts {
		for _, in := range everyWho(3) {
			want := api.OK
			if in[part] && !passes(c, in) {
				want = api.ErrRefused
			}
			wantChange(t, c, in, part, p.Period, p.Budget, want)
		}
	}
}

// P12.3: changes that only conf.Check refuses, whether the partition is in or not, and changes that only Test does.
func TestChangeByWhom(t *testing.T) {
	c := config(part(3, 8, takes(task(32, 32, 3), 1, 3, 1)), part(2, 8, task(32, 32, 2)))
	for _, in := range everyWho(2) {
		// The task has for 3 ticks what is shared: as long as a budget must be.
		wantChange(t, c, in, 0, 8, 2, api.ErrConf)
		wantChange(t, c, in, 0, 2, 2, api.ErrConf)
		wantChange(t, c, in, 0, 8, 3, api.OK)
		wantChange(t, c, in, 1, 8, 9, api.ErrConf)
		wantChange(t, c, in, 1, 65, 2, api.ErrConf)
		wantChange(t, c, in, 1, 8, 0, api.ErrConf)
		wantChange(t, c, in, 1, 0, 0, api.ErrConf)
		// Too much beside the other one.
		want := api.OK
		if in[0] && in[1] {
			want = api.ErrRefused
		}
		wantChange(t, c, in, 1, 8, 6, want)
		wantChange(t, c, in, 1, 8, 5, api.OK)
		// Too little for its own task.
		want = api.OK
		if in[1] {
			want = api.ErrRefused
		}
		wantChange(t, c, in, 1, 32, 1, want)
	}
}

// P12.3: a hyperperiod that is above the limit with the new period only.
func TestChangeAboveLimit(t *testing.T) {
	c := config(part(1, 9), part(1, 2, task(63, 63, 1), task(62, 62, 1)))
	wantPass(t, c, who(2, 0, 1))
	wantChange(t, c, who(2, 0, 1), 1, 4, 2, api.ErrLimit)
	wantChange(t, c, who(2, 0), 1, 4, 2, api.OK)
	wantChange(t, c, who(2, 0, 1), 1, 3, 2, api.OK)
}

// P12.3: what was refused passes with a change, and the others stay as they were.
func TestChangeMends(t *testing.T) {
	c := config(part(1, 2), part(1, 2), part(1, 4, task(64, 64, 2)))
	c.Ports = []api.Port{queue(0, 2), sample(1, 0), sample(2, 0)}
	wantChange(t, c, who(3, 0, 1, 2), 1, 8, 2, api.OK)
	wantChange(t, c, who(3, 0, 1, 2), 0, 64, 16, api.OK)
	wantChange(t, c, who(3, 0, 1, 2), 2, 64, 1, api.ErrRefused)
}

// P12.1 to P12.3: configurations of all kinds, whoever is in.
func TestSome(t *testing.T) {
	random := rand.New(rand.NewSource(121))
	var tests, joins, changes, here, differ int
	for i := range 1200 {
		many := 1 + i%api.MaxParts
		c := someConfig(random, many)
		for _, in := range everyWho(many) {
			part, at, e := modelTest(c, in)
			wantTest(t, c, in, part, at, e)
			tests += count(e == api.OK)
			here += count(part > 0 && at > 0)
			part = random.Intn(many)
			join := modelJoin(c, in, part)
			wantJoin(t, c, in, part, join)
			joins += count(join == api.OK && !in[part])
			period := upTo(random, api.MaxTime)
			budget := upTo(random, min(api.MaxTime, period+1))
			change := modelChange(c, in, part, period, budget)
			wantChange(t, c, in, part, period, budget, change)
			changes += count(change == api.OK && in[part])
			differ += count(change != e && change != api.ErrConf)
		}
		if t.Failed() {
			return
		}
	}
	for _, n := range []int{tests, joins, changes, here, differ} {
		if n < 500 {
			t.Errorf("so many of a kind: %d %d %d %d %d", tests, joins, changes, here, differ)
			break
		}
	}
}

// count is 1 of what is so, else 0.
func count(is bool) int {
	if is {
		return 1
	}
	return 0
}

// P12.5: who passes the test passes it with fewer in, too.
func TestFewer(t *testing.T) {
	random := rand.New(rand.NewSource(125))
	pass := 0
	for range 600 {
		c := someConfig(random, api.MaxParts)
		for _, in := range everyWho(api.MaxParts) {
			if !passes(c, in) {
				continue
			}
			for i := range in {
				fewer := slices.Clone(in)
				fewer[i] = false
				wantPass(t, c, fewer)
				pass += count(in[i])
			}
		}
	}
	if pass < 2000 {
		t.Errorf("%d", pass)
	}
}

// roomyConfig is a configuration with spare room behind each of its lists.
func roomyConfig(first api.Part) api.Config {
	tasks := func() []api.Task {
		return append(make([]api.Task, 0, 8), takes(task(48, 48, 2), 2, 1, 2), task(40, 40, 1), task(71, 72, 73))[:2]
	}
	spare := part(78, 77, task(79, 80, 81))
	first.Tasks = append(first.Tasks, tasks()...)
	return api.Config{
		Parts: append(make([]api.Part, 0, 8), first, part(2, 8, tasks()[1:]...), part(1, 8), spare, spare)[:3],
		Ports: append(make([]api.Port, 0, 8), sample(0, 1), queue(2, 0), queue(9, 9))[:2],
	}
}

// P12.4: what is handed in is left as it was, its spare room too, whether it passes or not.
func TestOnlyRead(t *testing.T) {
	for _, first := range []api.Part{part(4, 8), part(5, 8), part(8, 8), late(4, 8), part(9, 8)} {
		c := roomyConfig(first)
		was := whole(c)
		for bits := range 1 << 4 {
			room := []bool{bits&1 != 0, bits&2 != 0, bits&4 != 0, bits&8 != 0, true, false}
			wasRoom := slices.Clone(room)
			for many := range 5 {
				in := room[:many]
				gate.Test(c, in)
				for part := -1; part <= 3; part++ {
					gate.Join(c, in, part)
					gate.Change(c, in, part, 16, 2)
					gate.Change(c, in, part, 8, 8)
					gate.Change(c, in, part, 8, 9)
				}
			}
			if !slices.Equal(room, wasRoom) {
				t.Errorf("%v is now %v", wasRoom, room)
			}
		}
		if now := whole(c); !same(now, was) {
			t.Errorf("%v is now %v", was, now)
		}
	}
}

// spoil writes into all that a configuration has, its spare room too.
func spoil(c api.Config) {
	parts, ports := c.Parts[:cap(c.Parts)], c.Ports[:cap(c.Ports)]
	for i := range ports {
		ports[i] = api.Port{Kind: -1}
	}
	for i := range parts {
		tasks := parts[i].Tasks[:cap(parts[i].Tasks)]
		for j := range tasks {
			tasks[j] = api.Task{Period: -1}
		}
		parts[i] = api.Part{Period: -1}
	}
}

// P12.4: what is answered is new memory: the configuration, its rows of partitions, tasks and ports; no two of its lists are one, even where those that were handed in are.
func TestNewMemory(t *testing.T) {
	for _, in := range everyWho(3) {
		for part := range 3 {
			c := roomyConfig(api.Part{Period: 16, Budget: 4})
			was := whole(c)
			got, e := gate.Change(c, in, part, 16, 3)
			if e != api.OK {
				t.Fatalf("Change(%v, %v, %d): error %d", c, in, part, e)
			}
			other, _ := gate.Change(c, in, part, 16, 3)
			spoil(got)
			if now := whole(c); !same(now, was) {
				t.Errorf("%v is now %v", was, now)
			}
			want := copied(c)
			want.Parts[part].Period, want.Parts[part].Budget = 16, 3
			spoil(c)
			if !same(other, want) {
				t.Errorf("%v, answered too, is now %v", want, other)
			}
		}
	}
}

// P12.4: no two lists of an answer are one, even where those that were handed in are.
func TestListsApart(t *testing.T) {
	one := []api.Task{task(64, 64, 1), task(32, 32, 1)}
	c := config(part(1, 8, one...), part(1, 8, one[:1]...), part(1, 8, one...))
	got, _ := gate.Change(c, who(3), 1, 8, 2)
	want := copied(c)
	want.Parts[1].Budget = 2
	got.Parts[0].Tasks[0].Bound, want.Parts[0].Tasks[0].Bound = 9, 9
	if longer := append(got.Parts[1].Tasks, task(7, 7, 7)); len(longer) != 2 || !same(got, want) {
		t.Errorf("%v is now %v", want, got)
	}
}

// R2: no call hangs on the ones before.
func TestNothingKept(t *testing.T) {
	c, d := pqr(), config(late(4, 8), part(1, 2))
	for range 3 {
		wantPass(t, c, who(3, 0, 1))
		wantTest(t, d, who(2, 0, 1), 0, 0, api.ErrRefused)
		wantJoin(t, c, who(3, 0, 1), 2, api.ErrRefused)
		wantJoin(t, d, who(2), 1, api.OK)
		wantChange(t, c, who(3, 0, 1), 1, 4, 2, api.OK)
		wantChange(t, d, who(2, 1), 1, 3, 4, api.ErrConf)
		wantTest(t, c, who(2), 0, 0, api.ErrArg)
	}
}
