package spore_test

import (
	"math/rand"
	"testing"

	"escapement/api"
	"escapement/spore"
)

// wantErrno fails the test unless a call answers that error.
func wantErrno(t *testing.T, call string, got, want api.Errno) {
	t.Helper()
	if got != want {
		t.Errorf("%s: %d, not %d", call, got, want)
	}
}

// wantNext fails the test unless that is the earliest tick.
func wantNext(t *testing.T, g *spore.Guard, want int) {
	t.Helper()
	if got := g.Next(); got != want {
		t.Errorf("Next(): %d, not %d", got, want)
	}
}

// wantMay fails the test unless a release at a tick may be, or may not.
func wantMay(t *testing.T, g *spore.Guard, now int, want bool) {
	t.Helper()
	if got := g.May(now); got != want {
		t.Errorf("May(%d): %t, not %t", now, got, want)
	}
}

// P14.1, P14.2: the chapter's examples.
func TestExamples(t *testing.T) {
	g := made(t, 5)
	wantErrno(t, "Release(3)", g.Release(3), api.OK)
	wantNext(t, g, 8)
	wantErrno(t, "Release(7)", g.Release(7), api.ErrEarly)
	wantMay(t, g, 8, true)
	wantErrno(t, "Release(8)", g.Release(8), api.OK)

	wantErrno(t, "Release(-1)", g.Release(-1), api.ErrArg)
	wantErrno(t, "Release(MaxTick + 1)", g.Release(api.MaxTick+1), api.ErrOver)
	wantErrno(t, "Change(0)", g.Change(0), api.ErrArg)
	wantErrno(t, "Change(64)", g.Change(64), api.OK)
	wantNext(t, g, 13)
}

// P14.1, P14.2: each period that may be, from 1 to 64: 0 at first, then so many ticks from one release to the next one.
func TestEveryPeriod(t *testing.T) {
	for period := 1; period <= api.MaxTime; period++ {
		g := made(t, period)
		wantNext(t, g, 0)
		wantMay(t, g, 0, true)
		wantErrno(t, "Release(0)", g.Release(0), api.OK)
		wantNext(t, g, period)
		wantMay(t, g, period-1, false)
		wantErrno(t, "Release a tick ahead", g.Release(period-1), api.ErrEarly)
		wantMay(t, g, period, true)
		wantErrno(t, "Release just then", g.Release(period), api.OK)
		wantNext(t, g, 2*period)
		wantErrno(t, "Release later", g.Release(2*period+7), api.OK)
		wantNext(t, g, 3*period+7)
	}
}

// P14.2: with the period 1, each tick may have a release, but not two.
func TestEachTick(t *testing.T) {
	b := bothOf(t, 1)
	for now := range 100 {
		b.releases(now)
		wantErrno(t, "Release again", b.release(now), api.ErrEarly)
		b.called = ""
	}
	wantNext(t, b.g, 100)
}

// P14.2: the first release may be at any tick.
func TestFirst(t *testing.T) {
	for _, now := range []int{0, 1, 2, 4, 5, 6, 63, 64, 65, 1 << 32, horizon - 64, horizon - 1, horizon} {
		for _, period := range []int{1, 2, 5, 63, 64} {
			b := bothOf(t, period).releases(now)
			wantNext(t, b.g, now+period)
			wantErrno(t, "Release then again", b.release(now), api.ErrEarly)
			wantErrno(t, "Release(0)", b.release(0), api.ErrEarly)
		}
	}
}

// P14.2: the last releases below the horizon: the earliest tick may be above it, and then no more job may be released.
func TestHorizon(t *testing.T) {
	for period := 1; period <= longest; period++ {
		b := bothOf(t, period).releases(horizon-period, horizon)
		wantNext(t, b.g, horizon+period)
		for _, now := range []int{0, horizon - period, horizon - 1, horizon} {
			wantErrno(t, "Release once more", b.release(now), api.ErrEarly)
			wantMay(t, b.g, now, false)
		}
		// Even at the earliest tick itself, and behind it.
		for _, now := range []int{horizon + 1, horizon + period, horizon + period + 1, horizon + 2*period} {
			wantErrno(t, "Release beyond", b.release(now), api.ErrOver)
			wantMay(t, b.g, now, false)
		}
		wantErrno(t, "Release(-1)", b.release(-1), api.ErrArg)
		b.changes(1)
		wantNext(t, b.g, horizon+period)
	}
	// The earliest tick is just the horizon, and just above it.
	b := bothOf(t, 5).releases(horizon - 5)
	wantMay(t, b.g, horizon, true)
	b = bothOf(t, 5).releases(horizon - 4)
	wantMay(t, b.g, horizon, false)
	wantErrno(t, "Release(MaxTick)", b.release(horizon), api.ErrEarly)
}

// P14.1: a new period between two releases: the earliest tick stays, and the next release goes by the new one.
func TestChange(t *testing.T) {
	for from := 1; from <= longest; from++ {
		for _, to := range []int{1, 2, 5, 31, 63, 64, from} {
			b := bothOf(t, from).releases(10).changes(to)
			wantNext(t, b.g, 10+from)
			wantErrno(t, "Release a tick ahead", b.release(9+from), api.ErrEarly)
			b.releases(10 + from)
			wantNext(t, b.g, 10+from+to)
			b.changes(from)
			wantNext(t, b.g, 10+from+to)
		}
	}
	// Ahead of the first release.
	b := bothOf(t, 5).changes(9)
	wantNext(t, b.g, 0)
	b.releases(0)
	wantNext(t, b.g, 9)
	// Of several, only the last one is the period.
	b.changes(3).changes(64).changes(7)
	wantNext(t, b.g, 9)
	b.releases(9)
	wantNext(t, b.g, 16)
}

// P14.1: Change to the same period changes nothing.
func TestSamePeriod(t *testing.T) {
	for period := 1; period <= longest; period++ {
		b := bothOf(t, period).changes(period)
		wantNext(t, b.g, 0)
		b.releases(4).changes(period).changes(period)
		wantNext(t, b.g, 4+period)
		b.tell()
	}
}

// P14.2: May tells just whether Release would answer OK, and changes nothing: at each tick about each state, held against a guard of which only Release is asked, and one of which both are.
func TestMay(t *testing.T) {
	states := [][]int{nil, {0}, {3}, {0, 5, 11}, {20, 25}, {horizon - 70}, {horizon - 5}, {horizon}}
	for _, state := range states {
		start := bothOf(t, 5).releases(state...).g.Next()
		ticks := append(append([]int{-1, 0, 1, horizon}, belows...), aboves...)
		for now := start - longest - 3; now <= start+longest+3; now++ {
			ticks = append(ticks, now)
		}
		for _, now := range ticks {
			asked, alone := bothOf(t, 5).releases(state...), made(t, 5)
			for _, at := range state {
				alone.Release(at)
			}
			may := asked.g.May(now)
			if again := asked.g.May(now); again != may {
				asked.fail("May again", again, may)
			}
			wantNext(t, asked.g, start)
			e := alone.Release(now)
			if may != (e == api.OK) {
				asked.fail("May", may, e)
			}
			wantErrno(t, "Release behind May", asked.release(now), e)
			wantNext(t, asked.g, alone.Next())
		}
	}
}

// P14.2: two guards beside each other have nothing to do with each other, even of the same period.
func TestTwoGuards(t *testing.T) {
	a, b := bothOf(t, 5), bothOf(t, 5)
	a.releases(3, 8)
	b.same()
	b.releases(0).changes(64)
	a.same()
	a.releases(13)
	b.releases(5, 69)
	wantErrno(t, "Release(70)", b.release(70), api.ErrEarly)
	a.releases(70)
	a.change(0)
	b.release(-1)
	a.tell()
	b.tell()
	wantNext(t, a.g, 80)
	wantNext(t, b.g, 197)
}

// most is how many releases there may be in n ticks: n by the period, rounded up.
func most(n, period int) int {
	whole := 0
	for n > 0 {
		n -= period
		whole++
	}
	return whole
}

// wantSparse fails the test unless no row of ticks has more releases than may be: is tells of each tick whether it has one.
func wantSparse(t *testing.T, period int, is []bool) {
	t.Helper()
	for from := range is {
		count := 0
		for to := from; to < len(is); to++ {
			if is[to] {
				count++
			}
			if n := to + 1 - from; count > most(n, period) {
				t.Fatalf("the period %d: %d releases in %d ticks, from %d on", period, count, n, from)
			}
		}
	}
}

// try tries a release at the tick i behind start, and notes it, if it was one.
func try(g *spore.Guard, start, i int, is []bool) {
	if g.Release(start+i) == api.OK {
		is[i] = true
	}
}

// P14.5: in any row of ticks of the length n, no more than n / period, rounded up, are releases; who tries each tick comes to just so many.
func TestRowsOfTicks(t *testing.T) {
	const many = 200
	random := rand.New(rand.NewSource(145))
	for period := 1; period <= longest; period++ {
		for _, start := range []int{0, 1 << 32, horizon - many + 1} {
			dense, sparse := make([]bool, many), make([]bool, many)
			each, seldom := made(t, period), made(t, period)
			for i := range many {
				try(each, start, i, dense)
				// Tries at ticks that are gone, and wrong ones, let no more of them be.
				try(seldom, start, random.Intn(i+1), sparse)
				seldom.Release(-1)
				seldom.Change(0)
				seldom.Change(period)
			}
			count := 0
			for _, is := range dense {
				if is {
					count++
				}
			}
			if want := most(many, period); count != want {
				t.Errorf("the period %d: %d releases, not %d", period, count, want)
			}
			wantSparse(t, period, dense)
			wantSparse(t, period, sparse)
		}
	}
}
