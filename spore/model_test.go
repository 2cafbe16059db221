package spore_test

import (
	"fmt"
	"math"
	"math/rand"
	"testing"

	"escapement/api"
	"escapement/spore"
)

const (
	horizon = 1 << 40
	longest = 64 // period
)

// noPeriods are numbers that no period may be.
var noPeriods = []int{0, -1, 65, -2, -5, -64, 66, 128, 1 << 32, 1<<32 + 1, -(1 << 32), -(1 << 32) + 1, horizon, math.MinInt, math.MinInt + 1, math.MaxInt - 1, math.MaxInt}

// belows and aboves are numbers that are no ticks.
var (
	belows = []int{-1, -2, -64, -horizon, -(1 << 32), math.MinInt, math.MinInt + 1}
	aboves = []int{horizon + 1, horizon + 2, horizon + 63, horizon + 64, horizon + 65, 2 * horizon, math.MaxInt - 64, math.MaxInt - 1, math.MaxInt}
)

// released is a release: its tick, and the period that the guard had at it.
type released struct{ at, period int }

// model is a guard, as the chapter's words say it: all its releases, and its period.
type model struct {
	period int
	rows   []released
}

// next is the earliest tick: 0 at first, then the last release and the period at it.
func (m *model) next() int {
	if len(m.rows) == 0 {
		return 0
	}
	last := m.rows[len(m.rows)-1]
	return last.at + last.period
}

// told is the error of a release.
func (m *model) told(now int) api.Errno {
	if now < 0 {
		return api.ErrArg
	}
	if now > horizon {
		return api.ErrOver
	}
	if now < m.next() {
		return api.ErrEarly
	}
	return api.OK
}

func (m *model) release(now int) api.Errno {
	e := m.told(now)
	if e == api.OK {
		m.rows = append(m.rows, released{now, m.period})
	}
	return e
}

func (m *model) change(period int) api.Errno {
	for may := 1; may <= longest; may++ {
		if may == period {
			m.period = period
			return api.OK
		}
	}
	return api.ErrArg
}

// made is a guard of a period, which may be.
func made(t *testing.T, period int) *spore.Guard {
	t.Helper()
	g, e := spore.New(period)
	if g == nil || e != api.OK {
		t.Fatalf("New(%d): %v, %d", period, g, e)
	}
	return g
}

// both are a guard and the model of it, of which the same is asked.
type both struct {
	t      *testing.T
	g      *spore.Guard
	m      *model
	called string // so far: told where something is wrong
}

// bothOf are those of a period.
func bothOf(t *testing.T, period int) *both {
	t.Helper()
	b := &both{t: t, g: made(t, period), m: &model{period: period}, called: fmt.Sprintf("New(%d)", period)}
	b.same()
	return b
}

// fail fails the test, and says what was called.
func (b *both) fail(what string, got, want any) {
	b.t.Helper()
	b.t.Fatalf("%s: %s: %v, not %v", b.called, what, got, want)
}

// same fails the test unless Next and May, about the earliest tick and at the edges, are what the model says, however often they are asked.
func (b *both) same() {
	b.t.Helper()
	for range 2 {
		if got, want := b.g.Next(), b.m.next(); got != want {
			b.fail("Next()", got, want)
		}
		n := b.m.next()
		for _, now := range []int{n, n - 1, n + 1, n + b.m.period, 0, -1, horizon - 1, horizon, horizon + 1, math.MinInt, math.MaxInt} {
			b.may(now)
		}
	}
}

func (b *both) may(now int) {
	b.t.Helper()
	if got, want := b.g.May(now), b.m.told(now) == api.OK; got != want {
		b.fail(fmt.Sprintf("May(%d)", now), got, want)
	}
}

func (b *both) release(now int) api.Errno {
	b.t.Helper()
	b.called += fmt.Sprintf(" Release(%d)", now)
	e, want := b.g.Release(now), b.m.release(now)
	if e != want {
		b.fail("it", e, want)
	}
	b.same()
	return e
}

func (b *both) change(period int) api.Errno {
	b.t.Helper()
	b.called += fmt.Sprintf(" Change(%d)", period)
	e, want := b.g.Change(period), b.m.change(period)
	if e != want {
		b.fail("it", e, want)
	}
	b.same()
	return e
}

// releases releases jobs at ticks at which they may be.
func (b *both) releases(l ...int) *both {
	b.t.Helper()
	for _, now := range l {
		if e := b.release(now); e != api.OK {
			b.fail("it", e, api.OK)
		}
	}
	return b
}

// changes is Change, to a period that may be.
func (b *both) changes(period int) *both {
	b.t.Helper()
	if e := b.change(period); e != api.OK {
		b.fail("it", e, api.OK)
	}
	return b
}

// tell lets the guard tell its period, by a release as early as may be, if one still may.
func (b *both) tell() {
	b.t.Helper()
	n := b.m.next()
	if n > horizon {
		return
	}
	b.releases(n)
	if got, want := b.g.Next()-n, b.m.period; got != want {
		b.fail("the period", got, want)
	}
}

// P14.1 to P14.3: every row of four calls of a few ticks and periods.
func TestEveryRow(t *testing.T) {
	ticks, periods := []int{-1, 0, 1, 2, 3, 4, 6}, []int{0, 1, 2, 3}
	kinds, rows := len(ticks)+len(periods), 1
	const calls = 4
	for range calls {
		rows *= kinds
	}
	for period := 1; period <= 3; period++ {
		for row := range rows {
			b := bothOf(t, period)
			for range calls {
				if kind := row % kinds; kind < len(ticks) {
					b.release(ticks[kind])
				} else {
					b.change(periods[kind-len(ticks)])
				}
				row /= kinds
			}
			b.tell()
		}
	}
}

// some is a tick, mostly about the earliest one, or any number.
func some(random *rand.Rand, next int) int {
	switch random.Intn(10) {
	case 0:
		return next
	case 1:
		return next - 1
	case 2, 3, 4:
		return next + random.Intn(5)
	case 5, 6:
		return next - random.Intn(longest+2)
	case 7:
		return next + random.Intn(1<<random.Intn(38))
	case 8:
		return belows[random.Intn(len(belows))]
	}
	return aboves[random.Intn(len(aboves))]
}

// P14.1 to P14.3: long runs of calls of any kind, some from 0 on, some up to the horizon, and beyond.
func TestLongRuns(t *testing.T) {
	random := rand.New(rand.NewSource(14))
	errors := map[api.Errno]int{}
	var changed, wrong, done int
	for run := range 1500 {
		b := bothOf(t, 1+random.Intn(longest))
		if run%3 == 0 {
			b.releases(horizon - random.Intn(1000))
		}
		for range 120 {
			switch random.Intn(8) {
			case 0, 1:
				b.changes(1 + random.Intn(longest))
				changed++
			case 2:
				if b.change(noPeriods[random.Intn(len(noPeriods))]) == api.OK {
					b.fail("a wrong period", api.OK, api.ErrArg)
				}
				wrong++
			default:
				errors[b.release(some(random, b.m.next()))]++
			}
		}
		if b.m.next() > horizon {
			done++
		}
		b.tell()
	}
	for _, e := range []api.Errno{api.OK, api.ErrArg, api.ErrOver, api.ErrEarly} {
		if errors[e] < 5000 {
			t.Errorf("the error %d so often: %d", e, errors[e])
		}
	}
	if changed < 5000 || wrong < 5000 || done < 300 || done > 1200 {
		t.Errorf("changed %d, wrong %d, done %d", changed, wrong, done)
	}
}

// P14.4: of two releases, one behind the other, the second one is at least the period at the first one behind it: told by the answers alone.
func TestApart(t *testing.T) {
	random := rand.New(rand.NewSource(144))
	pairs, least := 0, 0
	for range 400 {
		period := 1 + random.Intn(longest)
		g := made(t, period)
		var l []released
		for range 200 {
			if random.Intn(5) == 0 {
				if n := random.Intn(2*longest) - 10; g.Change(n) == api.OK {
					period = n
				}
				continue
			}
			now := some(random, g.Next())
			if now > horizon/2 || g.Release(now) != api.OK {
				continue
			}
			l = append(l, released{now, period})
		}
		for i, x := range l[:max(0, len(l)-1)] {
			pairs++
			if l[i+1].at-x.at == x.period {
				least++
			}
			// Not only the next one: each one behind it.
			for _, y := range l[i+1:] {
				if y.at-x.at < x.period {
					t.Fatalf("%d is released behind %d, with the period %d", y.at, x.at, x.period)
				}
			}
		}
	}
	if pairs < 10000 || least < 1000 {
		t.Errorf("pairs %d, just the period apart %d", pairs, least)
	}
}
