package purse_test

import (
	"math"
	"slices"
	"testing"

	"escapement/api"
	"escapement/purse"
)

var (
	// noPeriods are numbers that no period may be.
	noPeriods = []int{0, 65, -1, -2, -64, -65, 66, 127, 128, 256, 257, 1 << 32, 1<<32 + 1, 1<<32 + 5, -(1 << 32) + 5, horizon, horizon + 5, math.MinInt, math.MinInt + 1, math.MinInt + 5, math.MaxInt - 5, math.MaxInt - 1, math.MaxInt}
	// belows and aboves are numbers that are no ticks.
	belows = []int{-1, -2, -64, -horizon, -(1 << 32), math.MinInt, math.MinInt + 1}
	aboves = []int{horizon + 1, horizon + 2, horizon + 64, horizon + 65, 2 * horizon, math.MaxInt - 64, math.MaxInt - 1, math.MaxInt}
)

// noBudgets are numbers that a budget may not be with a period.
func noBudgets(period int) []int {
	return []int{0, period + 1, -1, -period, period + 2, 65, 66, 128, period + 256, 1 << 32, 1<<32 + 1, -(1 << 32) + 1, horizon, math.MinInt, math.MinInt + 1, math.MaxInt - 1, math.MaxInt}
}

// wantErrno fails the test unless a call answers that error.
func wantErrno(t *testing.T, call string, got, want api.Errno) {
	t.Helper()
	if got != want {
		t.Errorf("%s: %d, not %d", call, got, want)
	}
}

// wantNoPurse fails the test unless New answers that error, and no purse.
func wantNoPurse(t *testing.T, period, budget, now int, want api.Errno) {
	t.Helper()
	p, e := purse.New(period, budget, now)
	if p != nil || e != want {
		t.Errorf("New(%d, %d, %d): %v, %d, not %d", period, budget, now, p, e, want)
	}
	// Nobody can do anything with what is answered.
	wantErrno(t, "Charge", p.Charge(), api.ErrNil)
}

// Of a purse that is nil, or a zero one, there is nothing, whatever is asked, and ErrNil comes ahead of what else is wrong; and it stays one.
func TestNone(t *testing.T) {
	numbers := slices.Concat(noPeriods, belows, aboves, []int{1, 2, 5, 63, 64, horizon - 1})
	for _, p := range []*purse.Purse{nil, {}, new(purse.Purse)} {
		for _, n := range numbers {
			for _, m := range []int{n, 0, 1, 5, 64} {
				wantErrno(t, "Charge", p.Charge(), api.ErrNil)
				ended, e := p.Turn(n)
				wantErrno(t, "Turn", e, api.ErrNil)
				wantErrno(t, "Change", p.Change(n, m), api.ErrNil)
				wantErrno(t, "Change", p.Change(m, n), api.ErrNil)
				wantErrno(t, "Leave", p.Leave(), api.ErrNil)
				if ended || stateOf(p) != (state{}) {
					t.Errorf("of none: %t, %v", ended, stateOf(p))
				}
			}
		}
	}
}

// P19.1: what may not be is told as ErrArg, whichever of the three it is, ahead of a now that is beyond the horizon.
func TestNewWrong(t *testing.T) {
	nows := slices.Concat(belows, aboves, []int{0, 1, 1000, horizon - 1, horizon})
	for _, now := range nows {
		for _, period := range noPeriods {
			for _, budget := range []int{1, 0, -1, 5, 64, 65, period, period + 1, math.MinInt, math.MaxInt} {
				wantNoPurse(t, period, budget, now, api.ErrArg)
			}
		}
		for _, period := range []int{1, 2, 5, 63, 64} {
			for _, budget := range noBudgets(period) {
				wantNoPurse(t, period, budget, now, api.ErrArg)
			}
		}
	}
	for period := 1; period <= longest; period++ {
		for _, budget := range []int{1, (period + 1) / 2, period} {
			for _, now := range belows {
				wantNoPurse(t, period, budget, now, api.ErrArg)
			}
			for _, now := range aboves {
				wantNoPurse(t, period, budget, now, api.ErrOver)
			}
		}
	}
}

// states are purses of all kinds.
func states(t *testing.T) []*both {
	return []*both{
		bothOf(t, 5, 2, 10),
		bothOf(t, 1, 1, 0).charges(1),
		bothOf(t, 64, 64, 3).charges(64),
		bothOf(t, 64, 63, horizon).charges(5),
		bothOf(t, 5, 2, 10).charges(1).changes(4, 1),
		bothOf(t, 5, 2, 10).charges(2).changes(5, 2),
		bothOf(t, 5, 2, 10).turns(3).charges(1).changes(64, 64),
		bothOf(t, 5, 2, 10).charges(1).leaves(),
		bothOf(t, 5, 5, horizon).turns(1).charges(5).leaves(),
		bothOf(t, 5, 2, 10).changes(7, 3).charges(1).turns(1).charges(2),
		bothOf(t, 5, 2, 10).leaves().turns(1),
		bothOf(t, 5, 2, 10).charges(2).leaves().turns(1),
		bothOf(t, 5, 2, 10).changes(7, 3).charges(1).turns(1).charges(2).leaves().turns(1),
	}
}

// P19.4: a purse that is gone, or waits, may neither change nor leave: which is told ahead of a period and a budget that may not be.
func TestWaitsOrGone(t *testing.T) {
	seen := 0
	for _, b := range states(t) {
		if !b.m.waits() && !b.m.gone {
			continue
		}
		seen++
		for _, n := range slices.Concat(noPeriods, []int{1, 5, 64}) {
			wantErrno(t, "Change", b.change(n, 1), api.ErrState)
			wantErrno(t, "Change", b.change(5, n), api.ErrState)
			wantErrno(t, "Leave", b.leave(), api.ErrState)
		}
	}
	if seen != 8 {
		t.Errorf("%d purses, not 8", seen)
	}
}

// P19.4: with a period or a budget that may not be, a purse does not change, and still may.
func TestChangeWrong(t *testing.T) {
	for i, b := range states(t) {
		if b.m.waits() || b.m.gone {
			continue
		}
		for _, period := range noPeriods {
			for _, budget := range []int{1, 0, -1, 5, 64, 65, period, period + 1, math.MinInt, math.MaxInt} {
				wantErrno(t, "Change", b.change(period, budget), api.ErrArg)
			}
		}
		for period := 1; period <= longest; period++ {
			for _, budget := range noBudgets(period) {
				wantErrno(t, "Change", b.change(period, budget), api.ErrArg)
			}
		}
		if i%2 == 0 {
			b.changes(9, 8).turns(1).charges(8)
		} else {
			b.leaves().turns(1)
		}
	}
}

// P19.2, P19.3: that a purse is gone is told ahead of its being empty, and of whatever tick it is.
func TestGoneFirst(t *testing.T) {
	for _, b := range []*both{
		bothOf(t, 5, 2, 10).leaves().turns(1),
		bothOf(t, 5, 2, 10).charges(2).leaves().turns(1),
		bothOf(t, 64, 1, horizon).leaves().turns(1),
	} {
		wantErrno(t, "Charge", b.charge(), api.ErrState)
		for _, now := range slices.Concat(belows, aboves, []int{0, 14, 15, 16, 20, horizon, b.m.ends() - 1, b.m.ends(), b.m.ends() + 1}) {
			ended, e := b.turn(now)
			if ended {
				b.fail("Turn", ended, false)
			}
			wantErrno(t, "Turn", e, api.ErrState)
		}
	}
}

// P19.6: no error changes anything: of each kind of purse, each wrong call, several times; neither what it tells, nor what becomes of it.
func TestErrorChangesNothing(t *testing.T) {
	for i := range states(t) {
		b, alone := states(t)[i], states(t)[i]
		for range 3 {
			wrongCalls(b)
		}
		if got, want := stateOf(b.p), stateOf(alone.p); got != want {
			b.fail("state", got, want)
		}
		for range 4 {
			end, e := b.turn(b.m.ends())
			wantEnd, wantE := alone.turn(alone.m.ends())
			if end != wantEnd || e != wantE || stateOf(b.p) != stateOf(alone.p) {
				b.fail("state behind Turn", stateOf(b.p), stateOf(alone.p))
			}
			wrongCalls(b)
		}
	}
}

// wrongCalls are all calls of a purse as it is that are answered an error.
func wrongCalls(b *both) {
	if b.m.left() == 0 {
		b.charge()
	}
	for _, now := range []int{b.m.ends() + 1, b.m.ends() + 64, 2 * horizon, math.MaxInt} {
		b.turn(now)
	}
	if b.m.gone {
		b.turn(b.m.ends())
		b.turn(b.m.ends() - 1)
	}
	for _, n := range noPeriods {
		b.change(n, 1)
		b.change(5, noBudgets(5)[0])
	}
	if b.m.gone || b.m.waits() {
		b.change(8, 3)
		b.leave()
	}
}
