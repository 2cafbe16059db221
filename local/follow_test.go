package local_test

import (
	"math/rand"
	"slices"
	"testing"

	"escapement/api"
	"escapement/local"
)

// slack is one that must be answered.
func slack(t *testing.T, l []api.Part, part, n int) int {
	got, e := local.Slack(l, part, n)
	if e != api.OK {
		t.Fatalf("Slack(%v, %d, %d): error %d", l, part, n, e)
	}
	return got
}

// soonest is the least Deadline of a partition that has tasks: for so many ticks something is asked, for fewer nothing.
func soonest(p api.Part) int {
	least := api.MaxTime
	for _, x := range p.Tasks {
		least = min(least, x.Deadline)
	}
	return least
}

// P10.4: of a partition that passes no slack of ticks for which something is asked is below 0, far beyond the end, up to the most ticks that may be asked for.
func TestNoneShort(t *testing.T) {
	random := rand.New(rand.NewSource(104))
	many := 0
	for i := range 3000 {
		l := someParts(random, 1+i%api.MaxParts, 3)
		part := random.Intn(len(l))
		if len(l[part].Tasks) == 0 || !passes(l, part) {
			continue
		}
		many++
		first := soonest(l[part])
		for n := first; n < 600; n++ {
			if got := slack(t, l, part, n); got < 0 {
				t.Fatalf("%v, %d: passes, but %d of %d ticks", l, part, got, n)
			}
		}
		for range 200 {
			n := first + random.Intn(maxTicks+1-first)
			if got := slack(t, l, part, n); got < 0 {
				t.Fatalf("%v, %d: passes, but %d of %d ticks", l, part, got, n)
			}
		}
		for n := maxTicks - 100; n <= maxTicks; n++ {
			if got := slack(t, l, part, n); got < 0 {
				t.Fatalf("%v, %d: passes, but %d of %d ticks", l, part, got, n)
			}
		}
	}
	if many < 500 {
		t.Errorf("but %d pass", many)
	}
}

// P10.2, P10.4: where a partition is refused its slack is below 0, and none ahead of it is; that is never behind the hyperperiod, so never at the end. Refused with 0, it has less slack from one hyperperiod to the next.
func TestSomeShort(t *testing.T) {
	random := rand.New(rand.NewSource(105))
	for i := range 3000 {
		l := someParts(random, 1+i%api.MaxParts, 4)
		part := random.Intn(len(l))
		at, e := local.Test(l, part)
		if e != api.ErrRefused {
			continue
		}
		hyper, _ := modelOf(l, part).hyper()
		if at == 0 {
			if was, now := slack(t, l, part, 2*hyper), slack(t, l, part, 3*hyper); now >= was {
				t.Fatalf("%v, %d: refused with 0, but its slack is %d, and a hyperperiod later %d", l, part, was, now)
			}
			continue
		}
		if got := slack(t, l, part, at); got >= 0 || at > hyper {
			t.Fatalf("%v, %d: refused with %d of %d, but its slack is %d", l, part, at, hyper, got)
		}
		for n := soonest(l[part]); n < at; n++ {
			if got := slack(t, l, part, n); got < 0 {
				t.Fatalf("%v, %d: refused with %d, but the slack of %d is %d", l, part, at, n, got)
			}
		}
	}
}

// tally is how often a partition passes both of two tests, only the first one, only the second one.
type tally struct {
	both, first, second int
}

// add counts a partition that passes the tests, or not.
func (s *tally) add(first, second bool) {
	switch {
	case first && second:
		s.both++
	case first:
		s.first++
	case second:
		s.second++
	}
}

// P10.5: a partition more, at the end or elsewhere, makes no test pass that does not pass without it.
func TestPartMore(t *testing.T) {
	random := rand.New(rand.NewSource(106))
	var s tally
	for i := range 20000 {
		l := someParts(random, 1+i%(api.MaxParts-1), 3)
		at, where := random.Intn(len(l)), random.Intn(len(l)+1)
		if i%2 == 0 {
			where = len(l)
		}
		to := at
		if where <= at {
			to++
		}
		now := slices.Insert(slices.Clone(l), where, somePart(random, 3))
		if s.add(passes(l, at), passes(now, to)); s.second > 0 {
			t.Fatalf("%v, %d: does not pass; with one more, %v, it does", l, at, now[where])
		}
	}
	if s.both < 1000 || s.first < 50 {
		t.Errorf("%+v", s)
	}
}

// eased does something for each way in which a partition of a list may be eased: less of a Bound, or of Locks, of it or of another one, a greater Budget.
func eased(l []api.Part, part int, do func(kind int, l []api.Part)) {
	for i := range l {
		for j, x := range l[i].Tasks {
			for bound := max(1, x.Local, x.Long*x.Locks); bound < x.Bound; bound++ {
				now := copied(l)
				now[i].Tasks[j].Bound = bound
				do(0, now)
			}
			for locks := 1; locks < x.Locks; locks++ {
				now := copied(l)
				now[i].Tasks[j].Locks = locks
				do(1, now)
			}
		}
	}
	for budget := l[part].Budget + 1; budget <= l[part].Period; budget++ {
		now := copied(l)
		now[part].Budget = budget
		do(2, now)
	}
}

// someSharing are partitions of which tasks share much, of which some pass all the same: they are released seldom, and others have short Periods.
func someSharing(random *rand.Rand, many int) []api.Part {
	var l []api.Part
	for range many {
		p := part(1+random.Intn(4), 1)
		p.Budget = upTo(random, p.Period)
		for range 1 + random.Intn(3) {
			x := task(60, 30+random.Intn(31), 1+random.Intn(8))
			long := upTo(random, min(p.Budget, x.Bound))
			p.Tasks = append(p.Tasks, takes(x, 1+random.Intn(2), long, upTo(random, x.Bound/long)))
		}
		l = append(l, p)
	}
	return l
}

// P10.5: less of a Bound, of Locks, a greater Budget makes none fail that passes.
func TestEased(t *testing.T) {
	random := rand.New(rand.NewSource(107))
	var s [3]tally
	for i := range 4000 {
		l := someParts(random, 1+i%api.MaxParts, []int{2, 4, 8, 64}[i/4%4])
		if i%8 < 4 {
			l = someSharing(random, 1+i%api.MaxParts)
		}
		at := random.Intn(len(l))
		was := passes(l, at)
		eased(l, at, func(kind int, now []api.Part) {
			if s[kind].add(was, passes(now, at)); s[kind].first > 0 {
				t.Fatalf("%v, %d: passes; eased, %v: does not", l, at, now)
			}
		})
	}
	for kind, n := range s {
		if n.both < 1000 || n.second < 50 {
			t.Errorf("kind %d: %+v", kind, n)
		}
	}
}

// P10.1, P10.5: by a tick of each: less of a Bound is a tick more for each job, less of Locks what each is more, a tick of a Budget more what the supply is more.
func TestEasedByOne(t *testing.T) {
	other := part(6, 2, takes(task(30, 30, 2), 1, 1, 1))
	for _, row := range []struct {
		p          api.Part
		at30, at60 int
	}{
		{part(10, 6, takes(task(30, 30, 5), 1, 1, 3)), 14 - 41, 32 - 82},
		{part(10, 6, takes(task(30, 30, 4), 1, 1, 3)), 14 - 40, 32 - 80},
		{part(10, 6, takes(task(30, 30, 5), 1, 1, 2)), 14 - 29, 32 - 58},
		{part(10, 6, takes(task(30, 30, 5), 1, 1, 1)), 14 - 17, 32 - 34},
		{part(10, 7, takes(task(30, 30, 5), 1, 1, 1)), 18 - 17, 39 - 34},
	} {
		wantSlack(t, parts(row.p, other), 0, 30, row.at30, api.OK)
		wantSlack(t, parts(row.p, other), 0, 60, row.at60, api.OK)
	}
}
