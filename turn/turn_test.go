package turn_test

import (
	"slices"
	"testing"

	"escapement/api"
	"escapement/purse"
	"escapement/turn"
)

// full is a purse that has all of its budget.
func full(t *testing.T, period, budget, now int) *purse.Purse {
	t.Helper()
	p, e := purse.New(period, budget, now)
	if p == nil || e != api.OK {
		t.Fatalf("New(%d, %d, %d): %v, %d", period, budget, now, p, e)
	}
	return p
}

// charged is a purse, charged so often.
func charged(p *purse.Purse, times int) *purse.Purse {
	for range times {
		p.Charge()
	}
	return p
}

// turned is a purse of which so many periods have ended.
func turned(p *purse.Purse, times int) *purse.Purse {
	for range times {
		p.Turn(p.Ends())
	}
	return p
}

// leaving is a purse that leaves.
func leaving(p *purse.Purse) *purse.Purse {
	p.Leave()
	return p
}

// changing is a purse that has another period and budget from its next period on.
func changing(p *purse.Purse, period, budget int) *purse.Purse {
	p.Change(period, budget)
	return p
}

// wantTold fails the test unless a plan is that one.
func wantTold(t *testing.T, l []api.Part, begins []int, want ...int) {
	t.Helper()
	got, e := turn.Plan(l, begins, len(want))
	if e != api.OK || !slices.Equal(got, want) {
		t.Errorf("Plan(%v, %v, %d): %v, %d, not %v", l, begins, len(want), got, e, want)
	}
}

// P20.2: the chapter's examples.
func TestExamples(t *testing.T) {
	wantTold(t, servers(1, 2, 2, 4), []int{0, 0}, 0, 1, 0, 1, 0, 1, 0, 1)
	wantTold(t, servers(1, 3, 1, 2), []int{0, 1}, 0, 1, -1, 1, 0, 1, 0)
	wantTold(t, nil, nil, -1, -1)
}

// P20.1: nobody runs of no purses, and of one it, as long as it has something left.
func TestWhoFew(t *testing.T) {
	wantWho(t, nil, 0, false)
	wantWho(t, []*purse.Purse{}, 0, false)
	wantWho(t, make([]*purse.Purse, 0, 8), 0, false)
	for _, now := range []int{0, 1, 999, horizon - 64, horizon} {
		for _, period := range []int{1, 2, 63, 64} {
			for _, budget := range []int{1, (period + 1) / 2, period} {
				p := full(t, period, budget, now)
				for range budget {
					wantWho(t, []*purse.Purse{p}, 0, true)
					p.Charge()
				}
				wantWho(t, []*purse.Purse{p}, 0, false)
				p.Turn(now + period)
				wantWho(t, []*purse.Purse{p}, 0, true)
			}
		}
	}
}

// P20.1: the one runs whose period ends first, not the one that has the shortest period, the most left, or the least.
func TestWhoFirst(t *testing.T) {
	early, late := full(t, 10, 1, 0), full(t, 2, 2, 9)
	wantWho(t, []*purse.Purse{early, late}, 0, true)
	wantWho(t, []*purse.Purse{late, early}, 1, true)
	early, late = full(t, 10, 9, 0), full(t, 64, 1, 0)
	wantWho(t, []*purse.Purse{late, early}, 1, true)
	// Ends that are no more than a tick apart, beyond the horizon, too.
	for _, now := range []int{0, horizon - 3, horizon} {
		l := []*purse.Purse{full(t, 4, 1, now), full(t, 3, 1, now), full(t, 2, 1, now), full(t, 1, 1, now)}
		for i := 3; i >= 0; i-- {
			wantWho(t, l, i, true)
			l[i].Charge()
		}
		wantWho(t, l, 0, false)
	}
}

// P20.1: of several whose periods end at the same tick the first one runs, wherever they stand, and whatever else they have.
func TestWhoSameEnds(t *testing.T) {
	at := func(kind int) *purse.Purse {
		switch kind {
		case 0:
			return full(t, 20, 1, 0)
		case 1:
			return full(t, 1, 1, 19)
		case 2:
			return charged(turned(full(t, 5, 4, 0), 3), 3)
		}
		return leaving(full(t, 10, 10, 10))
	}
	for kinds := range 256 {
		l := make([]*purse.Purse, 4)
		for i := range l {
			l[i] = at(kinds >> (2 * i) & 3)
		}
		wantWho(t, l, 0, true)
		// Those that are empty, or whose periods end later, are no longer the first ones.
		for i := range 3 {
			if kinds&1 == 0 {
				l[i] = full(t, 21, 21, 0)
			} else {
				charged(l[i], longest)
			}
			wantWho(t, l, i+1, true)
		}
	}
	p := full(t, 5, 2, 0)
	wantWho(t, []*purse.Purse{p, p, p, p}, 0, true)
	wantWho(t, []*purse.Purse{nil, p, nil, p}, 1, true)
}

// nones is purses of which none can run, each of its own kind.
func nones(t *testing.T) []*purse.Purse {
	return []*purse.Purse{
		nil,
		{},
		charged(full(t, 1, 1, 0), 1),
		charged(leaving(full(t, 2, 2, 0)), 2),
		charged(changing(full(t, 2, 2, 0), 1, 1), 2),
		turned(leaving(full(t, 1, 1, 0)), 1),
		turned(charged(leaving(full(t, 3, 2, 0)), 2), 1),
	}
}

// P20.1: a purse that is nil, a zero one, gone, or has nothing left never runs: first, last, between others, or where all are so.
func TestWhoNone(t *testing.T) {
	all := nones(t)
	for _, a := range all {
		for _, b := range all {
			p, q := full(t, 64, 1, 0), full(t, 64, 64, 1)
			wantWho(t, []*purse.Purse{a}, 0, false)
			wantWho(t, []*purse.Purse{a, b}, 0, false)
			wantWho(t, []*purse.Purse{a, b, b, a}, 0, false)
			wantWho(t, []*purse.Purse{a, p}, 1, true)
			wantWho(t, []*purse.Purse{p, a}, 0, true)
			wantWho(t, []*purse.Purse{a, q, b, p}, 3, true)
			wantWho(t, []*purse.Purse{q, a, p, b}, 2, true)
			wantWho(t, []*purse.Purse{a, a, q, b}, 2, true)
			wantWho(t, []*purse.Purse{p, a, b, q}, 0, true)
		}
	}
}

// P20.1: the first four alone count: however many stand behind them, and whatever these have.
func TestWhoFour(t *testing.T) {
	behind := []*purse.Purse{full(t, 1, 1, 0), full(t, 1, 1, 0), nil, {}, full(t, 64, 64, 0)}
	for many := range behind {
		wantWho(t, append(slices.Clone(nones(t)[:4]), behind[:many+1]...), 0, false)
		for first := range 4 {
			l := []*purse.Purse{full(t, 9, 1, 0), full(t, 9, 1, 0), full(t, 9, 1, 0), full(t, 9, 1, 0)}
			l[first] = full(t, 8, 1, 0)
			wantWho(t, append(l, behind[:many+1]...), first, true)
		}
		wantWho(t, append([]*purse.Purse{nil, nil, nil, full(t, 64, 1, horizon)}, behind[:many+1]...), 3, true)
	}
	// As many as a rank has ids, and more.
	for _, many := range []int{63, 64, 65, 66, 1000} {
		l := make([]*purse.Purse, many)
		l[many-1] = full(t, 1, 1, 0)
		wantWho(t, l, 0, false)
		l[3] = full(t, 64, 1, 9)
		wantWho(t, l, 3, true)
	}
}

// P20.1: a purse that leaves runs as others do, till its period has ended; then it is gone.
func TestWhoLeaves(t *testing.T) {
	a, b := leaving(full(t, 5, 2, 0)), full(t, 6, 1, 0)
	l := []*purse.Purse{b, a}
	wantWho(t, l, 1, true)
	a.Charge()
	wantWho(t, l, 1, true)
	a.Turn(4)
	wantWho(t, l, 1, true)
	a.Turn(5)
	wantWho(t, l, 0, true)
	wantWho(t, l[1:], 0, false)
}

// P20.1: Who asks no tick: a purse whose period has ended, and that was not turned, runs by that period's end still; and one that is to change by the period and the budget that it has.
func TestWhoNotTurned(t *testing.T) {
	old, now := full(t, 5, 2, 0), full(t, 1, 1, 100)
	wantWho(t, []*purse.Purse{now, old}, 1, true)
	charged(old, 2)
	wantWho(t, []*purse.Purse{now, old}, 0, true)
	old.Turn(5)
	wantWho(t, []*purse.Purse{now, old}, 1, true)

	p, q := changing(full(t, 5, 1, 0), 1, 1), full(t, 6, 1, 0)
	wantWho(t, []*purse.Purse{q, p}, 1, true)
	p.Turn(5)
	wantWho(t, []*purse.Purse{q, p}, 0, true)
	wantWho(t, []*purse.Purse{p, q}, 0, true)
}

// P20.3: Who only looks: neither what a purse tells changes, nor what becomes of it.
func TestWhoOnlyLooks(t *testing.T) {
	all := func() []*purse.Purse {
		return append(nones(t), full(t, 5, 2, 10), charged(full(t, 64, 64, 3), 63), leaving(full(t, 7, 3, horizon)), changing(charged(full(t, 5, 2, 10), 1), 4, 4), turned(full(t, 3, 2, 0), 9))
	}
	asked, alone := all(), all()
	for i := range asked {
		for j := range asked {
			for k := range asked {
				wantModelWho(t, []*purse.Purse{asked[i], asked[j], asked[k], nil, asked[0]})
			}
		}
	}
	for range 3 {
		if got, want := statesOf(asked), statesOf(alone); !slices.Equal(got, want) {
			t.Fatalf("%v, not %v", got, want)
		}
		for i := range asked {
			if got, want := asked[i].Charge(), alone[i].Charge(); got != want {
				t.Fatalf("Charge of %v: %d, not %d", stateOf(asked[i]), got, want)
			}
			got, gotE := asked[i].Turn(asked[i].Ends())
			want, wantE := alone[i].Turn(alone[i].Ends())
			if got != want || gotE != wantE {
				t.Fatalf("Turn of %v: %t, %d, not %t, %d", stateOf(asked[i]), got, gotE, want, wantE)
			}
			wantModelWho(t, asked[i:])
		}
	}
}

// P20.3: the list that Who is handed stays as it is, its spare room, too, and is not kept.
func TestWhoList(t *testing.T) {
	a, b, c := full(t, 5, 1, 0), full(t, 4, 1, 0), full(t, 3, 1, 0)
	whole := []*purse.Purse{a, nil, b, {}, c, a, nil, c}
	kept := slices.Clone(whole)
	for n := range len(whole) + 1 {
		wantModelWho(t, whole[:n])
		if !slices.Equal(whole, kept) {
			t.Fatalf("the list was changed: %v, not %v", whole, kept)
		}
	}
	wantWho(t, whole[:3], 2, true)
	whole[0] = c
	wantWho(t, whole[:3], 0, true)
	whole[0], whole[2] = nil, nil
	wantWho(t, whole[:3], 0, false)
}

// P20.2: nobody runs where there is no server, in plans of each length; one server alone runs at the beginning of each of its periods; and five are too many.
func TestPlanFew(t *testing.T) {
	for n := range most + 1 {
		for _, l := range [][]api.Part{nil, {}} {
			if plan := wantPlan(t, l, nil, n); len(plan) != n || ran(plan, -1) != n {
				t.Fatalf("Plan of none, of %d: %v", n, plan)
			}
		}
	}
	wantPlan(t, make([]api.Part, 0, 5), make([]int, 0, 5), 7)
	for _, p := range everyServer(longest) {
		for _, begin := range []int{0, 1, 5} {
			plan := wantPlan(t, []api.Part{p}, []int{begin}, 2*longest+begin)
			for tick, who := range plan {
				if runs := tick >= begin && (tick-begin)%p.Period < p.Budget; runs != (who == 0) {
					t.Fatalf("%v from %d on: %v", p, begin, plan)
				}
			}
		}
	}
	wantTold(t, servers(1, 4, 1, 4, 1, 4, 1, 4), []int{0, 0, 0, 0}, 0, 1, 2, 3, 0, 1, 2, 3, 0)
	wantTold(t, servers(1, 8, 1, 7, 1, 6, 1, 5), []int{0, 0, 0, 0}, 3, 2, 1, 0, -1, 3, 2, 1, 0, -1, 3)
	wantPlan(t, servers(1, 4, 1, 4, 1, 4, 1, 4, 1, 4), []int{0, 0, 0, 0, 0}, 9)
}

// P20.2: a plan's first ticks are those of a longer one, for each length that may be.
func TestPlanLengths(t *testing.T) {
	for _, l := range [][]api.Part{servers(1, 2, 2, 4), servers(7, 64, 5, 63, 3, 4, 2, 9), servers(1, 3, 1, 2, 1, 7)} {
		begins := []int{3, 0, 500, 999}[:len(l)]
		whole := wantPlan(t, l, begins, most)
		for n := range most + 1 {
			wantTold(t, l, begins, whole[:n]...)
		}
	}
}

// P20.2: a server is not in ahead of its begin: at the last tick of the plan it may be once, at the plan's end, or behind it, not at all.
func TestPlanBegins(t *testing.T) {
	for _, n := range []int{1, 2, 3, 64, 999, 1000} {
		for _, begin := range []int{n - 2, n - 1, n, n + 1, 999, 1000} {
			if begin < 0 || begin > most {
				continue
			}
			plan := wantPlan(t, servers(64, 64), []int{begin}, n)
			if want := max(n-begin, 0); ran(plan, 0) != want || ran(plan[:min(begin, n)], -1) != min(begin, n) {
				t.Errorf("from %d on, of %d: %v", begin, n, plan)
			}
			wantPlan(t, servers(1, 2, 2, 3), []int{begin, 0}, n)
			wantPlan(t, servers(63, 64, 1, 1), []int{0, begin}, n)
		}
	}
	// Where it begins its purse is full, and its period ends a period on, whatever other servers have by then.
	wantTold(t, servers(3, 5, 2, 3), []int{0, 2}, 0, 0, 0, 1, 1, 1, 1, 0, 0, 0, 1)
	wantTold(t, servers(2, 3), []int{2}, -1, -1, 0, 0, -1, 0, 0, -1)
	wantTold(t, servers(1, 1, 1, 1), []int{3, 1}, -1, 1, 1, 0, 0, 0)
}

// P20.2: of servers whose periods end at the same tick the first one runs first, whether they began at the same one or not.
func TestPlanSameEnds(t *testing.T) {
	wantTold(t, servers(2, 5, 2, 5), []int{0, 0}, 0, 0, 1, 1, -1, 0, 0, 1, 1, -1)
	wantTold(t, servers(1, 4, 1, 2), []int{0, 2}, 0, -1, 1, -1, 1, 0, 1, -1)
	wantTold(t, servers(1, 2, 1, 4), []int{2, 0}, 1, -1, 0, -1, 0, 1, 0, -1)
	wantTold(t, servers(4, 4, 2, 2), []int{0, 2}, 0, 0, 0, 0, 1, 1, 0, 0, 1, 1)
	for begin := range 10 {
		for _, l := range [][]api.Part{servers(1, 6, 1, 3, 1, 2), servers(1, 2, 1, 3, 1, 6), servers(2, 6, 3, 6, 1, 6, 1, 6)} {
			wantPlan(t, l, []int{begin, begin, begin, begin}[:len(l)], 100)
		}
	}
}

// P20.2: what was left at the end of a period is no longer there in the next one, and more than a period has is nobody's: of servers that share just 1, less, and more.
func TestPlanShares(t *testing.T) {
	wantTold(t, servers(1, 2, 1, 3, 1, 6), []int{0, 0, 0}, 0, 1, 0, 1, 0, 2, 0, 1)
	wantTold(t, servers(1, 2, 1, 3), []int{0, 0}, 0, 1, 0, 1, 0, -1, 0, 1)
	wantTold(t, servers(1, 1, 64, 64), []int{0, 0}, 0, 0, 0, 0, 0)
	wantTold(t, servers(2, 3, 2, 4), []int{0, 0}, 0, 0, 1, 1, 0, 0, 1, 1, 0, 0, 0, 1)
	wantTold(t, servers(2, 2, 3, 4, 1, 5), []int{0, 0, 0}, 0, 0, 0, 0, 2, 0, 0, 0)
	wantTold(t, servers(3, 4, 3, 5), []int{0, 0}, 0, 0, 0, 1, 1, 0, 0, 0, 1, 1, 0, 0, 1, 1, 1, 0, 0, 0, 0, 1)
}

// P20.2: each server that may be is one; of a partition its Period and its Budget alone are looked at.
func TestPlanServers(t *testing.T) {
	for _, p := range everyServer(longest) {
		wantPlan(t, []api.Part{p, {Period: 7, Budget: 3}}, []int{0, 1}, 30)
	}
	want := wantPlan(t, servers(1, 3, 1, 2), []int{0, 1}, 7)
	l := servers(1, 3, 1, 2)
	l[0].Tasks = make([]api.Task, 9)
	l[1].Tasks = []api.Task{{Period: -1, Deadline: 65, Bound: 1 << 40, Global: 9, Long: -5, Locks: 99}}
	wantTold(t, l, []int{0, 1}, want...)
}
