package turn_test

import (
	"math"
	"math/rand"
	"slices"
	"testing"

	"escapement/api"
	"escapement/turn"
)

var (
	// noNumbers are such as are neither a plan's length nor a begin.
	noNumbers = []int{-1, -2, -1000, most + 1, most + 2, 2 * most, 1024, 1 << 16, 1 << 32, 1<<32 + 1, -(1 << 32), -(1 << 32) + 5, horizon, horizon + 1, math.MinInt, math.MinInt + 1, math.MaxInt - 1, math.MaxInt}
	// noPeriods are numbers that no period may be.
	noPeriods = []int{0, -1, longest + 1, -longest, 66, 128, 256, 257, 1 << 32, 1<<32 + 1, math.MinInt, math.MinInt + 1, math.MaxInt - 1, math.MaxInt}
)

// noBudgets are numbers that a budget may not be with a period.
func noBudgets(period int) []int {
	return []int{0, -1, -period, period + 1, period + 2, 65, 256 + period, 1 << 32, 1<<32 + 1, math.MinInt, math.MinInt + 1, math.MaxInt - 1, math.MaxInt}
}

// wantNoPlan fails the test unless Plan answers that error, and no plan.
func wantNoPlan(t *testing.T, l []api.Part, begins []int, n int, want api.Errno) {
	t.Helper()
	if plan, e := turn.Plan(l, begins, n); len(plan) != 0 || e != want {
		t.Fatalf("Plan(%v, %v, %d): %v, %d, not %d", l, begins, n, plan, e, want)
	}
}

// P20.2: a plan has from 0 to 1000 ticks.
func TestPlanLengthWrong(t *testing.T) {
	for _, n := range noNumbers {
		wantNoPlan(t, nil, nil, n, api.ErrLimit)
		wantNoPlan(t, servers(1, 2), []int{0}, n, api.ErrLimit)
		wantNoPlan(t, servers(1, 4, 1, 4, 1, 4, 1, 4), []int{0, 1, 2, 3}, n, api.ErrLimit)
	}
	for _, n := range []int{0, 1, most - 1, most} {
		wantPlan(t, nil, nil, n)
		wantPlan(t, servers(1, 2), []int{0}, n)
		wantPlan(t, servers(1, 4, 1, 4, 1, 4, 1, 4), []int{0, 1, 2, 3}, n)
	}
}

// P20.2: there are four servers at most, be there as many begins or not.
func TestPlanTooMany(t *testing.T) {
	for many := range 70 {
		l, begins := make([]api.Part, many), make([]int, many)
		for i := range l {
			l[i] = api.Part{Period: 10, Budget: 1}
		}
		want := api.OK
		if many > 4 {
			want = api.ErrLimit
		}
		for _, n := range []int{0, 1, 12, most} {
			if plan, e := turn.Plan(l, begins, n); e != want || e != api.OK && len(plan) != 0 {
				t.Errorf("Plan of %d servers, of %d: %v, %d, not %d", many, n, plan, e, want)
			}
			if many > 4 {
				wantNoPlan(t, l, begins[:4], n, api.ErrLimit)
				wantNoPlan(t, l, nil, n, api.ErrLimit)
			}
		}
	}
}

// P20.2: there are as many begins as servers.
func TestPlanBeginsTooFew(t *testing.T) {
	l, begins := servers(1, 4, 1, 4, 1, 4, 1, 4), []int{0, 1, 2, 3, 4, 5, 6, 7}
	for many := range len(l) + 1 {
		for other := range len(begins) + 1 {
			for _, n := range []int{0, 1, 10, most} {
				if many != other {
					wantNoPlan(t, l[:many], begins[:other], n, api.ErrArg)
				}
				wantPlan(t, l[:many], begins[:other], n)
			}
		}
	}
	wantNoPlan(t, nil, begins[:1], 5, api.ErrArg)
	wantNoPlan(t, l, nil, 5, api.ErrArg)
	wantNoPlan(t, l[:1], nil, 0, api.ErrArg)
}

// P20.2: each begin is from 0 to 1000, whichever of them it is, also where the plan is over by then.
func TestPlanBeginWrong(t *testing.T) {
	l := servers(1, 4, 2, 4, 64, 64, 1, 1)
	for many := 1; many <= len(l); many++ {
		for place := range many {
			for _, n := range []int{0, 1, 5, most} {
				begins := []int{0, 1000, 5, 999}[:many]
				for _, begin := range noNumbers {
					begins[place] = begin
					wantNoPlan(t, l[:many], begins, n, api.ErrArg)
				}
				for _, begin := range []int{0, 1, most - 1, most} {
					begins[place] = begin
					wantPlan(t, l[:many], begins, n)
				}
			}
		}
	}
}

// P20.2: each server may be one, whichever of them it is, also where it does not begin within the plan.
func TestPlanServerWrong(t *testing.T) {
	for many := 1; many <= 4; many++ {
		for place := range many {
			for _, n := range []int{0, 1, 5, 70} {
				l, begins := servers(1, 4, 2, 4, 64, 64, 1, 1)[:many], []int{0, 1000, 5, 999}[:many]
				for _, period := range noPeriods {
					for _, budget := range []int{1, 0, -1, 64, 65, period, period + 1, math.MinInt, math.MaxInt} {
						l[place] = api.Part{Period: period, Budget: budget}
						wantNoPlan(t, l, begins, n, api.ErrArg)
					}
				}
				for _, period := range []int{1, 2, 63, 64} {
					for _, budget := range noBudgets(period) {
						l[place] = api.Part{Period: period, Budget: budget}
						wantNoPlan(t, l, begins, n, api.ErrArg)
					}
					for _, budget := range []int{1, (period + 1) / 2, period} {
						l[place] = api.Part{Period: period, Budget: budget}
						wantPlan(t, l, begins, n)
					}
				}
			}
		}
	}
}

// P20.2: of several errors what is beyond a limit is told first: too many servers, or a length that may not be, ahead of the servers and of the begins.
func TestPlanOrderOfErrors(t *testing.T) {
	five := servers(1, 4, 1, 4, 1, 4, 1, 4, 1, 4)
	for _, begins := range [][]int{nil, {0}, {-1}, {0, 0, 0, 0}, {0, 0, 0, 0, -1}, {1001, 0, 0, 0, 0}, {0, 0, 0, 0, 0, 0}} {
		wantNoPlan(t, five, begins, 5, api.ErrLimit)
		wantNoPlan(t, make([]api.Part, 5), begins, 5, api.ErrLimit)
		for _, n := range noNumbers {
			wantNoPlan(t, five, begins, n, api.ErrLimit)
			wantNoPlan(t, five[:1], begins, n, api.ErrLimit)
			wantNoPlan(t, servers(0, 4), begins, n, api.ErrLimit)
			wantNoPlan(t, servers(5, 4, 1, 65), begins, n, api.ErrLimit)
			wantNoPlan(t, nil, begins, n, api.ErrLimit)
		}
		wantNoPlan(t, servers(0, 4), begins, 5, api.ErrArg)
		wantNoPlan(t, servers(5, 4, 1, 65), begins, 5, api.ErrArg)
	}
}

// P20.2: any arguments at all are answered as the model says.
func TestPlanAnyArguments(t *testing.T) {
	random := rand.New(rand.NewSource(2020))
	answers := map[api.Errno]int{}
	for range 20000 {
		l := someServers(random)
		begins := someBegins(random, len(l))
		n := random.Intn(30)
		for range random.Intn(3) {
			switch random.Intn(7) {
			case 0:
				n = noNumbers[random.Intn(len(noNumbers))]
			case 1:
				l, begins = append(l, servers(1, 5, 1, 3)...), append(begins, 0, 1)
			case 2:
				begins = append(begins, random.Intn(20))
			case 3:
				begins = begins[:random.Intn(len(begins)+1)]
			case 4:
				if len(begins) > 0 {
					begins[random.Intn(len(begins))] = noNumbers[random.Intn(len(noNumbers))]
				}
			case 5:
				if len(l) > 0 {
					l[random.Intn(len(l))].Period = noPeriods[random.Intn(len(noPeriods))]
				}
			case 6:
				if len(l) > 0 {
					p := &l[random.Intn(len(l))]
					p.Budget = noBudgets(p.Period)[random.Intn(13)]
				}
			}
		}
		wantPlan(t, l, begins, n)
		answers[modelErrno(l, begins, n)]++
	}
	if answers[api.OK] < 5000 || answers[api.ErrArg] < 5000 || answers[api.ErrLimit] < 2000 {
		t.Errorf("answers: %v", answers)
	}
}

// P20.3: what Plan is handed stays as it is, its spare room, too, with an error and without.
func TestPlanOnlyReads(t *testing.T) {
	task := api.Task{Period: 9, Deadline: 8, Bound: 7}
	whole := servers(1, 3, 1, 2, 2, 9, 64, 64, 1, 7, 0, 0, 5, 3)
	for i := range whole {
		whole[i].Tasks = append(make([]api.Task, 0, 3), task)
	}
	begins := []int{0, 1, 5, 30, 2, -7, 1001}
	kept, keptBegins := slices.Clone(whole), slices.Clone(begins)
	for many := range len(whole) + 1 {
		for other := range len(begins) + 1 {
			for _, n := range []int{-1, 0, 1, 40, 1001} {
				turn.Plan(whole[:many], begins[:other], n)
			}
		}
	}
	if !slices.Equal(begins, keptBegins) {
		t.Errorf("begins: %v, not %v", begins, keptBegins)
	}
	for i, p := range whole {
		if p.Period != kept[i].Period || p.Budget != kept[i].Budget || len(p.Tasks) != 1 || p.Tasks[0] != task || p.Tasks[:3][1] != (api.Task{}) || p.Tasks[:3][2] != (api.Task{}) {
			t.Errorf("server %d: %v", i, p)
		}
	}
}

// P20.3: what Plan is handed is not kept: written over behind it, it changes neither that plan nor what is answered to the same.
func TestPlanKeepsNothing(t *testing.T) {
	l, begins := servers(1, 3, 1, 2), []int{0, 1}
	plan := wantPlan(t, l, begins, 20)
	kept := slices.Clone(plan)
	l[0], l[1], begins[0], begins[1] = api.Part{Period: 64, Budget: 64}, api.Part{Period: 1, Budget: 1}, 999, 7
	if !slices.Equal(plan, kept) {
		t.Fatalf("the plan is %v, not %v", plan, kept)
	}
	wantTold(t, servers(1, 3, 1, 2), []int{0, 1}, kept...)
	wantPlan(t, l, begins, 20)
	wantTold(t, servers(1, 3, 1, 2), []int{0, 1}, kept...)
}

// What is answered is new memory: a plan that is written over, or put to, changes no other one.
func TestPlanIsNew(t *testing.T) {
	for _, n := range []int{0, 1, 2, 19, 64, most} {
		l, begins := servers(1, 3, 1, 2), []int{0, 1}
		first, second := wantPlan(t, l, begins, n), wantPlan(t, l, begins, n)
		kept := slices.Clone(second)
		first = first[:cap(first)]
		for i := range first {
			first[i] = 77
		}
		_ = append(first, 5)
		if !slices.Equal(second, kept) {
			t.Fatalf("another plan is %v, not %v", second, kept)
		}
		wantTold(t, l, begins, kept...)
	}
}
