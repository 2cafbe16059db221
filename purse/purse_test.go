package purse_test

import (
	"math"
	"testing"

	"escapement/api"
	"escapement/purse"
)

// made is a purse that may be.
func made(t *testing.T, period, budget, now int) *purse.Purse {
	t.Helper()
	p, e := purse.New(period, budget, now)
	if p == nil || e != api.OK {
		t.Fatalf("New(%d, %d, %d): %v, %d", period, budget, now, p, e)
	}
	return p
}

// wantState fails the test unless that is what a purse tells of itself.
func wantState(t *testing.T, p *purse.Purse, want state) {
	t.Helper()
	if got := stateOf(p); got != want {
		t.Errorf("state: %+v, not %+v", got, want)
	}
}

// wantTurn fails the test unless Turn answers that.
func wantTurn(t *testing.T, p *purse.Purse, now int, want bool, wantE api.Errno) {
	t.Helper()
	if ended, e := p.Turn(now); ended != want || e != wantE {
		t.Errorf("Turn(%d): %t, %d, not %t, %d", now, ended, e, want, wantE)
	}
}

// P19.1 to P19.5: the chapter's examples.
func TestExamples(t *testing.T) {
	p := made(t, 5, 2, 10)
	wantState(t, p, state{left: 2, ends: 15, period: 5, budget: 2})
	wantErrno(t, "Charge", p.Charge(), api.OK)
	wantErrno(t, "Charge", p.Charge(), api.OK)
	wantErrno(t, "Charge once more", p.Charge(), api.ErrEmpty)

	wantTurn(t, p, 14, false, api.OK)
	wantTurn(t, p, 15, true, api.OK)
	wantState(t, p, state{left: 2, ends: 20, period: 5, budget: 2})

	wantErrno(t, "Change", p.Change(4, 1), api.OK)
	wantState(t, p, state{left: 2, ends: 20, period: 5, budget: 2, waits: true})
	wantTurn(t, p, 20, true, api.OK)
	wantState(t, p, state{left: 1, ends: 24, period: 4, budget: 1, short: 2})

	wantErrno(t, "Leave", p.Leave(), api.OK)
	wantState(t, p, state{left: 1, ends: 24, period: 4, budget: 1, waits: true, short: 2})
	wantTurn(t, p, 24, true, api.OK)
	wantState(t, p, state{ends: 24, period: 4, budget: 1, gone: true, short: 3})
	wantErrno(t, "Charge", p.Charge(), api.ErrState)
}

// P19.1, P19.5: each period and budget that may be, from 0 on, up to the horizon, and beyond it with its end.
func TestNew(t *testing.T) {
	for period := 1; period <= api.MaxTime; period++ {
		for budget := 1; budget <= period; budget++ {
			for _, now := range []int{0, 1, 63, 64, 1 << 32, horizon - period, horizon - 1, horizon} {
				p := made(t, period, budget, now)
				wantState(t, p, state{left: budget, ends: now + period, period: period, budget: budget})
			}
		}
	}
}

// P19.2: each budget is charged to its last one, and no more; that changes nothing else.
func TestCharge(t *testing.T) {
	for period := 1; period <= api.MaxTime; period++ {
		for _, budget := range []int{1, (period + 1) / 2, period} {
			p := made(t, period, budget, 100)
			for left := budget - 1; left >= 0; left-- {
				wantErrno(t, "Charge", p.Charge(), api.OK)
				wantState(t, p, state{left: left, ends: 100 + period, period: period, budget: budget})
			}
			for range 3 {
				wantErrno(t, "Charge of nothing", p.Charge(), api.ErrEmpty)
				wantState(t, p, state{ends: 100 + period, period: period, budget: budget})
			}
		}
	}
}

// P19.3: the period ends at its end alone: ahead of it it does not yet, behind it it can't any more, and at the same tick it does not again.
func TestTurn(t *testing.T) {
	for _, s := range []span{{1, 1, 0, 0}, {1, 1, horizon, 0}, {5, 2, 10, 0}, {5, 2, 10, 1}, {5, 2, 10, 2}, {64, 64, 7, 63}, {64, 1, horizon, 0}, {63, 62, horizon - 63, 61}} {
		b := bothOf(t, s.period, s.budget, s.from).charges(s.charged)
		ends, short := s.from+s.period, s.budget-s.charged
		now := state{left: short, ends: ends, period: s.period, budget: s.budget}
		for _, ahead := range []int{ends - 1, ends - 2, s.from, s.from - 1, 0, -1, math.MinInt, math.MinInt + 1} {
			if ahead < ends {
				wantTurn(t, b.p, ahead, false, api.OK)
			}
		}
		for _, behind := range []int{ends + 1, ends + 2, ends + s.period, ends + 64, 2 * horizon, math.MaxInt - 1, math.MaxInt} {
			wantTurn(t, b.p, behind, false, api.ErrState)
		}
		wantState(t, b.p, now)

		wantTurn(t, b.p, ends, true, api.OK)
		now = state{left: s.budget, ends: ends + s.period, period: s.period, budget: s.budget, short: short}
		wantState(t, b.p, now)
		wantTurn(t, b.p, ends, false, api.OK)
		wantState(t, b.p, now)
		wantTurn(t, b.p, ends+s.period, true, api.OK)
		now.ends, now.short = ends+2*s.period, short+s.budget
		wantState(t, b.p, now)
	}
}

// P19.3, P19.5: what is left at the end of a period is short, be it nothing, some, or all; and that adds up.
func TestShort(t *testing.T) {
	for budget := 1; budget <= 10; budget++ {
		b, short := bothOf(t, 10, budget, 3), 0
		for left := 0; left <= budget; left++ {
			b.charges(budget - left).turns(1)
			short += left
			wantState(t, b.p, state{left: budget, ends: 13 + 10*(left+1), period: 10, budget: budget, short: short})
		}
		b.charges(1).leaves().turns(1)
		wantState(t, b.p, state{ends: 13 + 10*(budget+1), period: 10, budget: budget, gone: true, short: short + budget - 1})
	}
}

// P19.4: what a purse has from the next period on it does not have sooner: from each period to each other one, with the least budget and the whole one.
func TestChange(t *testing.T) {
	for from := 1; from <= longest; from++ {
		for to := 1; to <= longest; to++ {
			p := made(t, from, from, 20)
			now := state{left: from, ends: 20 + from, period: from, budget: from, waits: true}
			wantErrno(t, "Change", p.Change(to, 1), api.OK)
			wantState(t, p, now)
			wantErrno(t, "Charge", p.Charge(), api.OK)
			wantTurn(t, p, 19+from, false, api.OK)
			now.left--
			wantState(t, p, now)
			wantTurn(t, p, 20+from, true, api.OK)
			now = state{left: 1, ends: 20 + from + to, period: to, budget: 1, short: from - 1}
			wantState(t, p, now)

			// Behind the period in which the first one came to hold, there may be another one.
			wantErrno(t, "Change", p.Change(to, to), api.OK)
			now.waits = true
			wantState(t, p, now)
			wantTurn(t, p, 20+from+to, true, api.OK)
			now = state{left: to, ends: 20 + from + 2*to, period: to, budget: to, short: from}
			wantState(t, p, now)
			// And from then on it stays.
			wantTurn(t, p, now.ends, true, api.OK)
			now.ends, now.short = now.ends+to, now.short+to
			wantState(t, p, now)
		}
	}
}

// P19.4: a change to the same period and budget is one, too: the purse waits, and may not change again ahead of the next period.
func TestSameTerms(t *testing.T) {
	for period := 1; period <= longest; period++ {
		for _, budget := range []int{1, period} {
			b := bothOf(t, period, budget, 0).changes(period, budget)
			if !b.p.Waits() {
				b.fail("Waits", false, true)
			}
			wantErrno(t, "Change", b.change(period, budget), api.ErrState)
			wantErrno(t, "Change", b.change(64, 64), api.ErrState)
			wantErrno(t, "Leave", b.leave(), api.ErrState)
			b.turns(1)
			wantState(t, b.p, state{left: budget, ends: 2 * period, period: period, budget: budget, short: budget})
			b.changes(64, 64)
		}
	}
}

// P19.4: of two changes in one period, and of a change and a leaving, the first one holds.
func TestFirstOneHolds(t *testing.T) {
	b := bothOf(t, 5, 2, 10).changes(4, 1)
	wantErrno(t, "Change", b.change(7, 3), api.ErrState)
	wantErrno(t, "Leave", b.leave(), api.ErrState)
	b.turns(1)
	wantState(t, b.p, state{left: 1, ends: 19, period: 4, budget: 1, short: 2})

	b = bothOf(t, 5, 2, 10).leaves()
	wantErrno(t, "Change", b.change(7, 3), api.ErrState)
	wantErrno(t, "Leave", b.leave(), api.ErrState)
	b.turns(1)
	wantState(t, b.p, state{ends: 15, period: 5, budget: 2, gone: true, short: 2})
}

// P19.4, P19.5: a purse that leaves is charged till its period ends, and is gone only then; and nothing is told of it from then on, but what it had.
func TestLeave(t *testing.T) {
	for budget := 1; budget <= 6; budget++ {
		for charged := 0; charged <= budget; charged++ {
			b := bothOf(t, 6, budget, 1).leaves()
			wantState(t, b.p, state{left: budget, ends: 7, period: 6, budget: budget, waits: true})
			b.charges(charged)
			b.turn(6)
			wantState(t, b.p, state{left: budget - charged, ends: 7, period: 6, budget: budget, waits: true})
			b.turns(1)
			gone := state{ends: 7, period: 6, budget: budget, gone: true, short: budget - charged}
			wantState(t, b.p, gone)
			wantErrno(t, "Charge", b.charge(), api.ErrState)
			wantTurn(t, b.p, 7, false, api.ErrState)
			wantTurn(t, b.p, 6, false, api.ErrState)
			wantTurn(t, b.p, 13, false, api.ErrState)
			wantErrno(t, "Change", b.change(4, 1), api.ErrState)
			wantErrno(t, "Leave", b.leave(), api.ErrState)
			wantState(t, b.p, gone)
		}
	}
}

// P19.5: what a purse tells, it tells again, and changes nothing by it; and two purses have nothing to do with each other.
func TestTwoPurses(t *testing.T) {
	a, b := bothOf(t, 5, 2, 10), bothOf(t, 5, 2, 10)
	a.charges(1).changes(7, 3)
	b.same()
	b.charges(2).leaves()
	a.same()
	a.turns(1).charges(3)
	b.same()
	b.turns(1)
	a.same()
	a.changes(64, 1).turns(2)
	wantState(t, a.p, state{left: 1, ends: 150, period: 64, budget: 1, short: 2})
	wantState(t, b.p, state{ends: 15, period: 5, budget: 2, gone: true})
}
