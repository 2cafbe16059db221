package purse_test

import (
	"fmt"
	"math"
	"math/rand"
	"strings"
	"testing"

	"escapement/api"
	"escapement/purse"
)

const (
	horizon = 1 << 40
	longest = 64 // period
)

// span is a period of a purse: what it had, when it began, and how often it was charged.
type span struct{ period, budget, from, charged int }

// model is a purse, as the chapter's words say it: all its periods, of which the last one is the one that it is in, or was.
type model struct {
	spans  []span
	others []int // another period and budget, that it has from the next period on; empty, if there are none
	leaves bool
	gone   bool
}

// mayBe tells whether a period is from 1 to 64, and a budget from 1 to that.
func mayBe(period, budget int) bool {
	for may := 1; may <= longest; may++ {
		if may == period {
			return budget > 0 && !(budget > period)
		}
	}
	return false
}

// modelOf is a full purse, or an error.
func modelOf(period, budget, now int) (*model, api.Errno) {
	if !mayBe(period, budget) || now < 0 {
		return nil, api.ErrArg
	}
	if now > horizon {
		return nil, api.ErrOver
	}
	return &model{spans: []span{{period, budget, now, 0}}}, api.OK
}

func (m *model) last() *span {
	return &m.spans[len(m.spans)-1]
}

func (m *model) charge() api.Errno {
	if m.gone {
		return api.ErrState
	}
	if m.left() == 0 {
		return api.ErrEmpty
	}
	m.last().charged++
	return api.OK
}

func (m *model) turn(now int) (bool, api.Errno) {
	if m.gone || m.ends() < now {
		return false, api.ErrState
	}
	if m.ends() > now {
		return false, api.OK
	}
	next := span{m.last().period, m.last().budget, now, 0}
	if len(m.others) > 0 {
		next.period, next.budget = m.others[0], m.others[1]
	}
	if m.leaves {
		m.gone = true
	} else {
		m.spans = append(m.spans, next)
	}
	m.others, m.leaves = nil, false
	return true, api.OK
}

func (m *model) change(period, budget int) api.Errno {
	if m.gone || m.leaves || len(m.others) > 0 {
		return api.ErrState
	}
	if !mayBe(period, budget) {
		return api.ErrArg
	}
	m.others = []int{period, budget}
	return api.OK
}

func (m *model) leave() api.Errno {
	if m.gone || m.leaves || len(m.others) > 0 {
		return api.ErrState
	}
	m.leaves = true
	return api.OK
}

// left is the budget less what was charged; nothing, if it is gone.
func (m *model) left() int {
	if m.gone {
		return 0
	}
	return m.last().budget - m.last().charged
}

func (m *model) ends() int {
	return m.last().from + m.last().period
}

// waits tells whether it leaves, or has others from the next period on.
func (m *model) waits() bool {
	return !m.gone && (m.leaves || len(m.others) > 0)
}

// short is what was left at the end of each period that ended.
func (m *model) short() int {
	ended := m.spans
	if !m.gone {
		ended = ended[:len(ended)-1]
	}
	short := 0
	for _, s := range ended {
		short += s.budget - s.charged
	}
	return short
}

// state is all that a purse tells of itself.
type state struct {
	left, ends, period, budget int
	waits, gone                bool
	short                      int
}

// stateOf is that of a purse.
func stateOf(p *purse.Purse) state {
	period, budget := p.Is()
	return state{p.Left(), p.Ends(), period, budget, p.Waits(), p.Gone(), p.Short()}
}

func (m *model) state() state {
	return state{m.left(), m.ends(), m.last().period, m.last().budget, m.waits(), m.gone, m.short()}
}

// call is one that was made.
type call struct {
	what string
	n, m int
}

// both are a purse and the model of it, of which the same is asked.
type both struct {
	t     *testing.T
	p     *purse.Purse
	m     *model
	calls []call // so far: told where something is wrong
}

// bothOf are those of a purse that may be.
func bothOf(t *testing.T, period, budget, now int) *both {
	p, e := purse.New(period, budget, now)
	m, want := modelOf(period, budget, now)
	if e != want || (p == nil) != (m == nil) {
		t.Fatalf("New(%d, %d, %d): %v, %d, not %d", period, budget, now, p, e, want)
	}
	if p == nil {
		t.Fatalf("New(%d, %d, %d): such a purse may not be", period, budget, now)
	}
	b := &both{t: t, p: p, m: m}
	b.calls = append(b.calls, call{fmt.Sprintf("New %d:", now), period, budget})
	b.same()
	return b
}

// fail fails the test, and says what was called.
func (b *both) fail(what string, got, want any) {
	b.t.Helper()
	var calls strings.Builder
	for _, c := range b.calls {
		fmt.Fprintf(&calls, " %s %d %d;", c.what, c.n, c.m)
	}
	b.t.Fatalf("%s %s: %v, not %v", calls.String(), what, got, want)
}

// same fails the test unless all that the purse tells is what the model says, however often it is asked.
func (b *both) same() {
	for range 2 {
		if got, want := stateOf(b.p), b.m.state(); got != want {
			b.fail("state", got, want)
		}
	}
}

// answered fails the test unless both answered that error, and looks whether they are the same still.
func (b *both) answered(e, want api.Errno) api.Errno {
	if e != want {
		b.fail("error", e, want)
	}
	b.same()
	return e
}

func (b *both) charge() api.Errno {
	b.calls = append(b.calls, call{what: "Charge"})
	return b.answered(b.p.Charge(), b.m.charge())
}

func (b *both) turn(now int) (bool, api.Errno) {
	b.calls = append(b.calls, call{what: "Turn", n: now})
	ended, e := b.p.Turn(now)
	want, wantE := b.m.turn(now)
	if ended != want {
		b.fail("ended", ended, want)
	}
	return ended, b.answered(e, wantE)
}

func (b *both) change(period, budget int) api.Errno {
	b.calls = append(b.calls, call{"Change", period, budget})
	return b.answered(b.p.Change(period, budget), b.m.change(period, budget))
}

func (b *both) leave() api.Errno {
	b.calls = append(b.calls, call{what: "Leave"})
	return b.answered(b.p.Leave(), b.m.leave())
}

// charges is Charge so often as there is something left for.
func (b *both) charges(times int) *both {
	b.t.Helper()
	for range times {
		if e := b.charge(); e != api.OK {
			b.fail("Charge", e, api.OK)
		}
	}
	return b
}

// turns lets so many periods end.
func (b *both) turns(times int) *both {
	b.t.Helper()
	for range times {
		if ended, e := b.turn(b.m.ends()); !ended || e != api.OK {
			b.fail("Turn", e, api.OK)
		}
	}
	return b
}

// changes is a Change that may be.
func (b *both) changes(period, budget int) *both {
	b.t.Helper()
	if e := b.change(period, budget); e != api.OK {
		b.fail("Change", e, api.OK)
	}
	return b
}

// leaves is a Leave that may be.
func (b *both) leaves() *both {
	b.t.Helper()
	if e := b.leave(); e != api.OK {
		b.fail("Leave", e, api.OK)
	}
	return b
}

// P19.1 to P19.6: every row of six calls of some small purses.
func TestEveryRow(t *testing.T) {
	calls := []func(b *both){
		func(b *both) { b.charge() },
		func(b *both) { b.turn(b.m.ends() - 1) },
		func(b *both) { b.turn(b.m.ends()) },
		func(b *both) { b.turn(b.m.ends() + 1) },
		func(b *both) { b.change(3, 2) },
		func(b *both) { b.change(1, 2) },
		func(b *both) { b.leave() },
	}
	const length = 6
	rows := 1
	for range length {
		rows *= len(calls)
	}
	for _, s := range []span{{1, 1, 0, 0}, {2, 1, 7, 0}, {2, 2, horizon, 0}, {3, 2, 0, 0}} {
		for row := range rows {
			b := bothOf(t, s.period, s.budget, s.from)
			for range length {
				calls[row%len(calls)](b)
				row /= len(calls)
			}
		}
	}
}

// someTick is one about the end of the period, mostly the end itself, or any number.
func someTick(random *rand.Rand, ends int) int {
	switch random.Intn(8) {
	case 0:
		return ends - 1
	case 1:
		return ends + 1
	case 2:
		return []int{math.MinInt, -1, 0, horizon, horizon + 1, math.MaxInt}[random.Intn(6)]
	case 3:
		return ends + random.Intn(2*longest) - longest
	}
	return ends
}

// someTerms are a period and a budget, mostly such as may be.
func someTerms(random *rand.Rand) (period, budget int) {
	period = 1 + random.Intn(longest)
	switch random.Intn(4) {
	case 0:
		return noPeriods[random.Intn(len(noPeriods))], 1
	case 1:
		return period, noBudgets(period)[random.Intn(len(noBudgets(period)))]
	}
	return period, 1 + random.Intn(period)
}

// P19.1 to P19.6: long runs of Charge, Turn, Change and Leave in any order, some beyond the horizon.
func TestLongRuns(t *testing.T) {
	random := rand.New(rand.NewSource(19))
	charged, turned, changed, left := map[api.Errno]int{}, map[api.Errno]int{}, map[api.Errno]int{}, map[api.Errno]int{}
	ended, gone, beyond := 0, 0, 0
	for run := range 1500 {
		period := 1 + random.Intn(longest)
		from := []int{0, random.Intn(1000), horizon - random.Intn(1000), horizon}[run%4]
		b := bothOf(t, period, 1+random.Intn(period), from)
		for range 300 {
			switch n := random.Intn(240); {
			case n == 0:
				left[b.leave()]++
			case n < 40:
				changed[b.change(someTerms(random))]++
			case n < 80:
				end, e := b.turn(someTick(random, b.m.ends()))
				turned[e]++
				if end {
					ended++
				}
			default:
				charged[b.charge()]++
			}
		}
		if b.m.gone {
			gone++
		}
		if b.m.ends() > horizon {
			beyond++
		}
	}
	if charged[api.OK] < 5000 || charged[api.ErrEmpty] < 5000 || charged[api.ErrState] < 5000 {
		t.Errorf("Charge: %v", charged)
	}
	if turned[api.OK] < 5000 || turned[api.ErrState] < 5000 || ended < 5000 {
		t.Errorf("Turn: %v, of which ended %d", turned, ended)
	}
	if changed[api.OK] < 5000 || changed[api.ErrState] < 5000 || changed[api.ErrArg] < 3000 {
		t.Errorf("Change: %v", changed)
	}
	if left[api.OK] < 500 || left[api.ErrState] < 500 || gone < 500 || beyond < 500 {
		t.Errorf("Leave: %v, gone %d, beyond %d", left, gone, beyond)
	}
}
