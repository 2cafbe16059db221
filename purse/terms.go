package purse

import "escapement/api"

// terms are what a purse has in a period; zero ones are none.
type terms struct {
	period, budget int
}

// mayBe tells whether there may be such terms.
func (t terms) mayBe() bool {
	return 1 <= t.budget && t.budget <= t.period && t.period <= api.MaxTime
}
