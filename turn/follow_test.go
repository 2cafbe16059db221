package turn_test

import (
	"math/rand"
	"slices"
	"testing"

	"escapement/api"
	"escapement/share"
	"escapement/turn"
)

// planned is a plan that there may be.
func planned(t *testing.T, l []api.Part, begins []int, n int) []int {
	t.Helper()
	plan, e := turn.Plan(l, begins, n)
	if e != api.OK || len(plan) != n {
		t.Fatalf("Plan(%v, %v, %d): %v, %d", l, begins, n, plan, e)
	}
	return plan
}

// short is in how many of its periods that end in a plan a server is in it less often than its budget says, and how many such periods there are. It fails the test, if the server is in any period more often, or ahead of where it begins.
func short(t *testing.T, plan []int, server int, p api.Part, begin int) (less, all int) {
	t.Helper()
	if ran(plan[:min(begin, len(plan))], server) > 0 {
		t.Fatalf("%d is in %v ahead of %d", server, plan, begin)
	}
	for from := begin; from < len(plan); from += p.Period {
		end := from + p.Period
		n := ran(plan[from:min(end, len(plan))], server)
		if n > p.Budget {
			t.Fatalf("%d is in %v %d times from %d on", server, plan, n, from)
		}
		if end <= len(plan) {
			all++
			if n < p.Budget {
				less++
			}
		}
	}
	return less, all
}

// wantKept fails the test unless all servers, which share at most 1, are in their plan as often as their budgets say; it tells how many periods it has looked at.
func wantKept(t *testing.T, l []api.Part, begins []int, n int) int {
	t.Helper()
	if share.Test(l) != api.OK {
		t.Fatalf("%v share more than 1", l)
	}
	plan, periods := planned(t, l, begins, n), 0
	for i, p := range l {
		less, all := short(t, plan, i, p, begins[i])
		if less > 0 {
			t.Fatalf("Plan(%v, %v, %d): %v: short for %d, %d times of %d", l, begins, n, plan, i, less, all)
		}
		periods += all
	}
	return periods
}

// P20.4: all small servers that share at most 1, in every order, and in every way to begin.
func TestKeptEverySmall(t *testing.T) {
	all := everyServer(5)
	periods := 0
	for _, p := range all {
		periods += wantKept(t, []api.Part{p}, []int{2}, 20)
		for _, q := range all {
			if two := []api.Part{p, q}; share.Test(two) == api.OK {
				for _, begins := range everyBegin(2, 5) {
					periods += wantKept(t, two, begins, 30)
				}
			}
			for _, r := range all {
				if three := []api.Part{p, q, r}; share.Test(three) == api.OK {
					for _, begins := range everyBegin(3, 3) {
						periods += wantKept(t, three, begins, 24)
					}
				}
			}
		}
	}
	if periods < 50000 {
		t.Errorf("%d periods", periods)
	}
}

// P20.4: servers of all sizes that share at most 1, four of them mostly, in long plans.
func TestKeptSome(t *testing.T) {
	random := rand.New(rand.NewSource(204))
	periods := 0
	for plans := 0; plans < 600; {
		l := someServers(random)
		if share.Test(l) == api.OK {
			periods += wantKept(t, l, someBegins(random, len(l)), most)
			plans++
		}
	}
	if periods < 50000 {
		t.Errorf("%d periods", periods)
	}
}

// P20.4: servers that share just 1 have no tick to lose, wherever they begin.
func TestKeptWhole(t *testing.T) {
	random := rand.New(rand.NewSource(2040))
	for _, l := range [][]api.Part{
		servers(1, 1), servers(64, 64), servers(63, 64, 1, 64), servers(1, 2, 1, 2), servers(1, 2, 1, 3, 1, 6), servers(1, 2, 1, 3, 1, 7, 1, 42),
		servers(16, 64, 1, 4, 15, 60, 2, 8), servers(1, 2, 1, 4, 1, 8, 1, 8), servers(5, 9, 7, 21, 1, 18, 1, 18), servers(29, 58, 1, 4, 3, 12),
	} {
		if top, below, e := share.Sum(l); top != 1 || below != 1 || e != api.OK {
			t.Fatalf("%v share %d by %d", l, top, below)
		}
		together := make([]int, len(l))
		wantKept(t, l, together, most)
		if n := ran(planned(t, l, together, most), -1); n > 0 {
			t.Errorf("%v: nobody runs in %d ticks", l, n)
		}
		for range 100 {
			wantKept(t, l, someBegins(random, len(l)), most)
		}
	}
}

// P20.4: servers that share more than 1, and begin at once, are not all in their plan as often as their budgets say; none is more often.
func TestNotKept(t *testing.T) {
	for _, l := range [][]api.Part{servers(1, 1, 1, 64), servers(1, 2, 1, 2, 1, 64), servers(2, 3, 2, 4), servers(64, 64, 1, 64), servers(1, 2, 1, 3, 1, 5), servers(2, 4, 1, 4, 1, 4, 1, 60)} {
		if share.Test(l) != api.ErrRefused {
			t.Fatalf("%v share at most 1", l)
		}
		plan := planned(t, l, make([]int, len(l)), most)
		late := 0
		for i, p := range l {
			less, _ := short(t, plan, i, p, 0)
			late += less
		}
		if late == 0 {
			t.Errorf("%v keep their budgets: %v", l, plan)
		}
	}
}

// with is a list in which one more stands at a place.
func with[T any](l []T, place int, one T) []T {
	return slices.Insert(slices.Clone(l), place, one)
}

// without is a plan of those that are there without a server: where that runs, -1; those behind it one less.
func without(plan []int, server int) []int {
	rest := slices.Clone(plan)
	for i, who := range plan {
		switch {
		case who == server:
			rest[i] = -1
		case who > server:
			rest[i] = who - 1
		}
	}
	return rest
}

// behind is for how many of n ticks one server's periods end later than those of all others that have begun by then.
func behind(l []api.Part, begins []int, place, n int) int {
	for tick := begins[place]; tick < n; tick++ {
		for i, p := range l {
			if i != place && begins[i] <= tick && ends(p, begins[i], tick) >= ends(l[place], begins[place], tick) {
				return tick
			}
		}
	}
	return n
}

// P20.5: of servers with periods up to 16, what they have in 48 ticks does not hang on one more with the period 64, whatever its budget, and wherever it stands; and that has what they leave.
func TestApart(t *testing.T) {
	random := rand.New(rand.NewSource(205))
	const n = 48
	for range 400 {
		l := make([]api.Part, random.Intn(4))
		begins := make([]int, len(l))
		for i := range l {
			period := 1 + random.Intn(16)
			l[i] = api.Part{Period: period, Budget: 1 + random.Intn(1+random.Intn(period))}
			begins[i] = random.Intn(20)
		}
		alone := planned(t, l, begins, n)
		for place := range len(l) + 1 {
			for budget := 1; budget <= longest; budget += 1 + random.Intn(20) {
				more, moreBegins := with(l, place, api.Part{Period: longest, Budget: budget}), with(begins, place, random.Intn(n))
				if behind(more, moreBegins, place, n) != n {
					t.Fatalf("%v from %v on: the periods of %d do not end later", more, moreBegins, place)
				}
				plan := planned(t, more, moreBegins, n)
				if got := without(plan, place); !slices.Equal(got, alone) {
					t.Fatalf("Plan(%v, %v, %d) without %d: %v, not %v", more, moreBegins, n, place, got, alone)
				}
				from := moreBegins[place]
				if got, want := ran(plan, place), min(budget, ran(alone[from:], -1)); got != want {
					t.Fatalf("Plan(%v, %v, %d): %v: %d is in it %d times, not %d", more, moreBegins, n, plan, place, got, want)
				}
			}
		}
	}
}

// P20.5: any servers, as long as one's periods end later than all others': what these have does not hang on it.
func TestApartSome(t *testing.T) {
	random := rand.New(rand.NewSource(2050))
	apart, reached := 0, 0
	for range 3000 {
		l := someServers(random)
		if len(l) == 0 {
			continue
		}
		begins := someBegins(random, len(l))
		plan := planned(t, l, begins, 300)
		for place := range l {
			n := behind(l, begins, place, 300)
			rest, restBegins := slices.Delete(slices.Clone(l), place, place+1), slices.Delete(slices.Clone(begins), place, place+1)
			alone := planned(t, rest, restBegins, 300)
			if got := without(plan, place); !slices.Equal(got[:n], alone[:n]) {
				t.Fatalf("Plan(%v, %v) without %d, of %d: %v, not %v", l, begins, place, n, got, alone)
			} else if !slices.Equal(got, alone) {
				// From where its period ends first it may well count.
				reached++
			}
			apart += max(0, n-begins[place])
		}
	}
	if apart < 20000 || reached < 500 {
		t.Errorf("apart for %d ticks, reached %d times", apart, reached)
	}
}

// P20.5: a server whose periods always end first runs at once, in the first ticks of each period, whatever others have.
func TestFirstAtOnce(t *testing.T) {
	random := rand.New(rand.NewSource(2051))
	for range 300 {
		period, begin := 1+random.Intn(8), random.Intn(8)
		first := api.Part{Period: period, Budget: 1 + random.Intn(period)}
		l, begins := []api.Part{first}, []int{begin}
		for range random.Intn(4) {
			// Its own periods end up to 47, the others' from 64 on.
			l = append(l, api.Part{Period: longest, Budget: 1 + random.Intn(longest)})
			begins = append(begins, random.Intn(30))
		}
		const n = 40
		for place := range l {
			l[0], l[place], begins[0], begins[place] = l[place], l[0], begins[place], begins[0]
			plan := planned(t, l, begins, n)
			for tick, who := range plan {
				if runs := tick >= begin && (tick-begin)%period < first.Budget; runs != (who == place) {
					t.Fatalf("Plan(%v, %v, %d): %v: %d does not run at once", l, begins, n, plan, place)
				}
			}
			l[0], l[place], begins[0], begins[place] = l[place], l[0], begins[place], begins[0]
		}
	}
	// One of the period 1 runs in each tick from where it begins on.
	for _, begin := range []int{0, 1, 500, 999} {
		plan := planned(t, servers(2, 2, 64, 64, 1, 1, 3, 5), []int{0, 0, begin, 0}, most)
		for tick, who := range plan {
			// At the last tick of a period of two another one's period ends at the same tick, and it stands ahead.
			if tick >= begin && who != 2 && !(who == 0 && tick%2 == 1) {
				t.Fatalf("from %d on, at %d: %d", begin, tick, who)
			}
		}
		plan = planned(t, servers(1, 1, 64, 64, 2, 2, 3, 5), []int{begin, 0, 0, 0}, most)
		if n := ran(plan[begin:], 0); n != most-begin {
			t.Errorf("from %d on: %d ticks", begin, n)
		}
	}
}
