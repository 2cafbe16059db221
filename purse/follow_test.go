package purse_test

import (
	"math/rand"
	"testing"

	"escapement/api"
	"escapement/purse"
)

// period is what is told by a purse's answers alone of one of its periods.
type period struct {
	length, budget, charged, short int
}

// play lets a purse go on tick by tick from now on, till so many periods have ended, and tells what they were: charge tells whether it is charged at a tick, and between does anything else.
func play(t *testing.T, p *purse.Purse, now, periods int, charge func() bool, between func()) []period {
	var l []period
	_, budget := p.Is()
	from, charged, short := now, 0, p.Short()
	for len(l) < periods && !p.Gone() {
		ended, e := p.Turn(now)
		if e != api.OK {
			t.Fatalf("Turn(%d): %d", now, e)
		}
		if ended {
			l = append(l, period{now - from, budget, charged, p.Short() - short})
			_, budget = p.Is()
			from, charged, short = now, 0, p.Short()
		}
		between()
		if charge() && p.Charge() == api.OK {
			charged++
		}
		now++
	}
	return l
}

// wantKept fails the test unless in each period a purse was charged as often as its budget less what was short of it, and never more.
func wantKept(t *testing.T, l []period) {
	t.Helper()
	for i, x := range l {
		if x.charged != x.budget-x.short || x.charged > x.budget || x.short < 0 || x.short > x.budget {
			t.Fatalf("period %d: charged %d of %d, short %d", i, x.charged, x.budget, x.short)
		}
	}
}

// P19.7: who is charged at each tick as long as it may be is charged just its budget in each period, and nothing is short; who never is is short of all.
func TestAllOrNothing(t *testing.T) {
	for length := 1; length <= longest; length++ {
		for budget := 1; budget <= length; budget++ {
			for _, now := range []int{0, horizon} {
				always := play(t, made(t, length, budget, now), now, 5, func() bool { return true }, func() {})
				never := play(t, made(t, length, budget, now), now, 5, func() bool { return false }, func() {})
				if len(always) != 5 || len(never) != 5 {
					t.Fatalf("%d and %d periods, not 5", len(always), len(never))
				}
				for i := range 5 {
					if always[i] != (period{length, budget, budget, 0}) || never[i] != (period{length, budget, 0, budget}) {
						t.Fatalf("period %d of %d by %d: %v, %v", i, budget, length, always[i], never[i])
					}
				}
			}
		}
	}
}

// P19.7: over many periods, charged at some ticks, with changes to others, and with leaving at last: in each period as often as its budget less what was short of it, never more.
func TestBudgets(t *testing.T) {
	random := rand.New(rand.NewSource(197))
	whole, some, changed, gone := 0, 0, 0, 0
	for run := range 300 {
		length := 1 + random.Intn(longest)
		now := random.Intn(1000)
		p := made(t, length, 1+random.Intn(length), now)
		often, waits := random.Intn(5), 0
		charge := func() bool { return random.Intn(5) <= often }
		between := func() {
			// Each other purse never changes.
			if run%2 == 0 && random.Intn(50) == 0 {
				if p.Change(someTerms(random)) == api.OK {
					waits++
				}
			}
			if random.Intn(3000) == 0 {
				p.Leave()
			}
			// Neither a look nor a wrong call makes it more, or less.
			p.Turn(p.Ends() + 1)
			p.Change(0, 0)
		}
		l := play(t, p, now, 60, charge, between)
		wantKept(t, l)
		for i, x := range l {
			if x.short == 0 {
				whole++
			} else {
				some++
			}
			if run%2 == 1 && x.budget != l[0].budget || run%2 == 1 && x.length != length {
				t.Fatalf("period %d: %v, though nothing changed", i, x)
			}
		}
		changed += waits
		if p.Gone() {
			gone++
		}
	}
	if whole < 3000 || some < 3000 || changed < 1000 || gone < 50 || gone > 250 {
		t.Errorf("whole %d, less %d, changed %d, gone %d", whole, some, changed, gone)
	}
}

// P19.7: however often a purse is charged in a period, and whatever else is called, it is never more than its budget, and just that, if it was often enough.
func TestNeverMore(t *testing.T) {
	random := rand.New(rand.NewSource(1970))
	for range 300 {
		length := 1 + random.Intn(longest)
		p, now := made(t, length, 1+random.Intn(length), 0), 0
		for range 40 {
			_, budget := p.Is()
			short, charged := p.Short(), 0
			for range 3 * longest {
				if p.Charge() == api.OK {
					charged++
				}
				switch random.Intn(20) {
				case 0:
					p.Change(someTerms(random))
				case 1:
					p.Turn(now)
				case 2:
					p.Turn(p.Ends() - 1)
				}
			}
			now = p.Ends()
			wantTurn(t, p, now, true, api.OK)
			if charged != budget || p.Short() != short {
				t.Fatalf("charged %d of %d, short %d", charged, budget, p.Short()-short)
			}
		}
	}
}
