package turn_test

import (
	"cmp"
	"math/rand"
	"slices"
	"testing"

	"escapement/api"
	"escapement/purse"
	"escapement/turn"
)

const (
	horizon = 1 << 40
	longest = 64   // period
	most    = 1000 // ticks of a plan, and begin
)

// from is where the period begins that a server is in at a tick, not ahead of its begin.
func from(p api.Part, begin, tick int) int {
	return tick - (tick-begin)%p.Period
}

// ends is where that period ends.
func ends(p api.Part, begin, tick int) int {
	return from(p, begin, tick) + p.Period
}

// ran is in how many of these ticks of a plan a server runs.
func ran(plan []int, server int) int {
	n := 0
	for _, who := range plan {
		if who == server {
			n++
		}
	}
	return n
}

// modelPlan is a plan, as the chapter's words say it: what a server has left is told by the ticks of its period that have gone by.
func modelPlan(l []api.Part, begins []int, n int) []int {
	var plan []int
	for tick := range n {
		who := -1
		for i, p := range l {
			if tick < begins[i] || ran(plan[from(p, begins[i], tick):], i) == p.Budget {
				continue
			}
			if who == -1 || ends(p, begins[i], tick) < ends(l[who], begins[who], tick) {
				who = i
			}
		}
		plan = append(plan, who)
	}
	return plan
}

// modelErrno is what is wrong with what a plan is asked of.
func modelErrno(l []api.Part, begins []int, n int) api.Errno {
	if len(l) > 4 || !(0 <= n && n <= most) {
		return api.ErrLimit
	}
	if len(begins) != len(l) {
		return api.ErrArg
	}
	for i, p := range l {
		if p.Period < 1 || p.Period > longest || p.Budget < 1 || p.Budget > p.Period || begins[i] < 0 || begins[i] > most {
			return api.ErrArg
		}
	}
	return api.OK
}

// modelWho is who runs, as the chapter's words say it: of those that could run, in order, the first one by when their periods end.
func modelWho(l []*purse.Purse) (int, bool) {
	var could []int
	for i, p := range l {
		if i < 4 && !p.Gone() && p.Left() != 0 {
			could = append(could, i)
		}
	}
	if len(could) == 0 {
		return 0, false
	}
	slices.SortStableFunc(could, func(a, b int) int { return cmp.Compare(l[a].Ends(), l[b].Ends()) })
	return could[0], true
}

// wantPlan fails the test unless Plan answers what the model says: a plan, or an error and none.
func wantPlan(t *testing.T, l []api.Part, begins []int, n int) []int {
	t.Helper()
	wantE := modelErrno(l, begins, n)
	var want []int
	if wantE == api.OK {
		want = modelPlan(l, begins, n)
	}
	got, e := turn.Plan(l, begins, n)
	if e != wantE || !slices.Equal(got, want) {
		t.Fatalf("Plan(%v, %v, %d): %v, %d, not %v, %d", l, begins, n, got, e, want, wantE)
	}
	return got
}

// wantWho fails the test unless Who answers that, however often it is asked.
func wantWho(t *testing.T, l []*purse.Purse, want int, wantIs bool) {
	t.Helper()
	for range 2 {
		if got, is := turn.Who(l); got != want || is != wantIs {
			t.Fatalf("Who(%v): %d, %t, not %d, %t", statesOf(l), got, is, want, wantIs)
		}
	}
}

// wantModelWho fails the test unless Who answers what the model says.
func wantModelWho(t *testing.T, l []*purse.Purse) {
	t.Helper()
	want, is := modelWho(l)
	wantWho(t, l, want, is)
}

// state is all that a purse tells of itself.
type state struct {
	left, ends, period, budget int
	waits, gone                bool
	short                      int
}

func stateOf(p *purse.Purse) state {
	period, budget := p.Is()
	return state{p.Left(), p.Ends(), period, budget, p.Waits(), p.Gone(), p.Short()}
}

func statesOf(l []*purse.Purse) []state {
	var states []state
	for _, p := range l {
		states = append(states, stateOf(p))
	}
	return states
}

// servers are partitions, told by budget and period, as in the chapter's examples.
func servers(numbers ...int) []api.Part {
	var l []api.Part
	for i := 0; i < len(numbers); i += 2 {
		l = append(l, api.Part{Budget: numbers[i], Period: numbers[i+1]})
	}
	return l
}

// everyServer is all servers with periods up to one.
func everyServer(period int) []api.Part {
	var l []api.Part
	for p := 1; p <= period; p++ {
		for budget := 1; budget <= p; budget++ {
			l = append(l, servers(budget, p)...)
		}
	}
	return l
}

// everyBegin is all ways of so many servers to begin up to a tick.
func everyBegin(many, latest int) [][]int {
	ways := [][]int{{}}
	for range many {
		var more [][]int
		for _, way := range ways {
			for begin := range latest + 1 {
				more = append(more, append(slices.Clone(way), begin))
			}
		}
		ways = more
	}
	return ways
}

// someServers is up to four servers, of all sizes or small ones.
func someServers(random *rand.Rand) []api.Part {
	l := make([]api.Part, random.Intn(5))
	greatest := []int{4, 12, longest}[random.Intn(3)]
	for i := range l {
		period := 1 + random.Intn(greatest)
		l[i] = api.Part{Period: period, Budget: 1 + random.Intn(1+random.Intn(period))}
	}
	return l
}

// someBegins is where so many servers begin: at once, soon, or any time.
func someBegins(random *rand.Rand, many int) []int {
	begins := make([]int, many)
	latest := []int{0, 10, 100, most}[random.Intn(4)]
	for i := range begins {
		begins[i] = random.Intn(latest + 1)
	}
	return begins
}

// P20.2: all small servers, of one, two and three, in every order, and in every way to begin.
func TestPlanEverySmall(t *testing.T) {
	for _, p := range everyServer(8) {
		for _, begins := range everyBegin(1, 20) {
			wantPlan(t, []api.Part{p}, begins, 40)
		}
	}
	all := everyServer(5)
	for _, p := range all {
		for _, q := range all {
			for _, begins := range everyBegin(2, 6) {
				wantPlan(t, []api.Part{p, q}, begins, 27)
			}
		}
	}
	all = everyServer(3)
	for _, p := range all {
		for _, q := range all {
			for _, r := range all {
				for _, begins := range everyBegin(3, 3) {
					wantPlan(t, []api.Part{p, q, r}, begins, 12)
				}
			}
		}
	}
}

// P20.2: servers of all sizes, up to four of them, beginning at any ticks, in plans of all lengths.
func TestPlanSome(t *testing.T) {
	random := rand.New(rand.NewSource(202))
	var many, busy, idle [5]int
	for range 1500 {
		l := someServers(random)
		plan := wantPlan(t, l, someBegins(random, len(l)), random.Intn(1+random.Intn(most+1)))
		many[len(l)]++
		busy[len(l)] += len(plan) - ran(plan, -1)
		idle[len(l)] += ran(plan, -1)
	}
	for i := 1; i <= 4; i++ {
		if many[i] < 150 || busy[i] < 5000 || idle[i] < 5000 {
			t.Errorf("of %d servers %d plans: %d ticks, and %d of nobody", i, many[i], busy[i], idle[i])
		}
	}
}

// somePurse is one in any state: none, gone, empty, to leave, to change, or with something left.
func somePurse(random *rand.Rand, now int) *purse.Purse {
	if random.Intn(10) == 0 {
		return []*purse.Purse{nil, {}}[random.Intn(2)]
	}
	period := 1 + random.Intn(longest)
	p, _ := purse.New(period, 1+random.Intn(period), now)
	for range random.Intn(20) {
		switch random.Intn(12) {
		case 0:
			p.Leave()
		case 1:
			p.Change(3, 2)
		case 2, 3, 4:
			p.Turn(p.Ends())
		default:
			p.Charge()
		}
	}
	return p
}

// P20.1: any purses at all, from none to seven.
func TestWhoSome(t *testing.T) {
	random := rand.New(rand.NewSource(201))
	var ran [4]int
	none, same := 0, 0
	for range 100000 {
		now := []int{0, 1000, horizon}[random.Intn(3)]
		l := make([]*purse.Purse, random.Intn(8))
		for i := range l {
			l[i] = somePurse(random, now)
		}
		wantModelWho(t, l)
		i, is := modelWho(l)
		if !is {
			none++
			continue
		}
		ran[i]++
		if slices.ContainsFunc(l[i+1:], func(p *purse.Purse) bool { return p.Left() > 0 && p.Ends() == l[i].Ends() }) {
			same++
		}
	}
	if slices.Min(ran[:]) < 5000 || none < 5000 || same < 500 {
		t.Errorf("ran %v, nobody %d, at the same tick %d", ran, none, same)
	}
}
