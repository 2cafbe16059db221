package spore_test

import (
	"slices"
	"testing"

	"escapement/api"
	"escapement/spore"
)

// Of a guard that is nil, or a zero one, there is nothing, whatever is asked, and ErrNil comes ahead of what else is wrong; and it stays one.
func TestNone(t *testing.T) {
	numbers := slices.Concat(noPeriods, belows, aboves, []int{1, 2, 5, 63, 64, 1000, horizon - 1})
	for _, g := range []*spore.Guard{nil, {}, new(spore.Guard)} {
		for _, n := range numbers {
			wantErrno(t, "Release", g.Release(n), api.ErrNil)
			wantErrno(t, "Change", g.Change(n), api.ErrNil)
			wantMay(t, g, n, false)
			wantNext(t, g, 0)
		}
	}
}

// P14.1: of what is no period there is no guard, and none is changed to it.
func TestNoPeriod(t *testing.T) {
	for _, period := range noPeriods {
		g, e := spore.New(period)
		if g != nil || e != api.ErrArg {
			t.Errorf("New(%d): %v, %d", period, g, e)
		}
		// Nobody can do anything with what is answered.
		wantErrno(t, "Release(0)", g.Release(0), api.ErrNil)
		for _, own := range []int{1, 5, 64} {
			b := bothOf(t, own)
			wantErrno(t, "Change", b.change(period), api.ErrArg)
			b.releases(3)
			wantErrno(t, "Change", b.change(period), api.ErrArg)
			wantNext(t, b.g, 3+own)
			b.tell()
		}
	}
}

// P14.2: what is no tick is told ahead of a tick that is too early: below 0 as ErrArg, above MaxTick as ErrOver, wherever the earliest tick is.
func TestNoTick(t *testing.T) {
	for _, state := range [][]int{nil, {0}, {7}, {horizon - 5}, {horizon - 1}, {horizon}} {
		b := bothOf(t, 64).releases(state...)
		for _, now := range belows {
			wantErrno(t, "Release below 0", b.release(now), api.ErrArg)
			wantMay(t, b.g, now, false)
		}
		for _, now := range aboves {
			wantErrno(t, "Release above MaxTick", b.release(now), api.ErrOver)
			wantMay(t, b.g, now, false)
		}
		b.called = ""
	}
}

// P14.3: no error changes anything: of each state, each wrong call, several times; neither the earliest tick nor the period, which the next release tells.
func TestErrorChangesNothing(t *testing.T) {
	states := []func() *both{
		func() *both { return bothOf(t, 5) },
		func() *both { return bothOf(t, 1).releases(0) },
		func() *both { return bothOf(t, 64).releases(3) },
		func() *both { return bothOf(t, 5).releases(3).changes(9) },
		func() *both { return bothOf(t, 64).releases(3, 67).changes(1) },
		func() *both { return bothOf(t, 7).releases(horizon - 7) },
		func() *both { return bothOf(t, 7).releases(horizon - 3).changes(2) },
	}
	for _, state := range states {
		next, period := state().m.next(), state().m.period
		for _, now := range slices.Concat(belows, aboves, []int{0, 1, next - longest, next - 2, next - 1, horizon}) {
			b := state()
			if b.m.told(now) == api.OK {
				continue
			}
			for range 3 {
				b.release(now)
				b.g.May(now)
			}
			wantState(b, next, period)
		}
		for _, n := range noPeriods {
			b := state()
			for range 3 {
				b.change(n)
			}
			wantState(b, next, period)
		}
	}
}

// wantState fails the test unless a guard has that earliest tick, and that period.
func wantState(b *both, next, period int) {
	b.t.Helper()
	wantNext(b.t, b.g, next)
	if b.m.period != period {
		b.fail("the model's period", b.m.period, period)
	}
	b.tell()
}
