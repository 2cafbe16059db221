package supply

import (
	"escapement/api"
	"escapement/ticks"
)

// server runs, in each period, in as many ticks as its budget says.
type server struct {
	period, budget int
}

// mayBe tells whether there may be such a server.
func (s server) mayBe() bool {
	return 1 <= s.budget && s.budget <= s.period && s.period <= api.MaxTime
}

// gap is in how many ticks of a period it does not run.
func (s server) gap() int {
	return s.period - s.budget
}

// periods is how many whole periods so many ticks are.
func (s server) periods(t int) (int, api.Errno) {
	return ticks.Div(t, s.period)
}

// budgets is how many whole budgets so many ticks are.
func (s server) budgets(n int) (int, api.Errno) {
	return ticks.Div(n, s.budget)
}

// late is a server from where it gives least: its budget of a period is just used up, and it runs in the last ticks of each period from then on.
type late struct {
	server
}

// given is in how many of the first t ticks it runs.
func (l late) given(t int) int {
	if t < l.gap() {
		return 0
	}
	turns, idle := l.turns(t-l.gap(), server.periods)
	// Till the next turn's gap has gone by there is no more than what the whole ones gave.
	return max(turns*l.budget, t-idle)
}

// wait is how many ticks go by till it has run in n.
func (l late) wait(n int) int {
	if n == 0 {
		return 0
	}
	// The last tick of a budget is still one of its own turn, not of the next one: so that tick is not counted in.
	_, idle := l.turns(n-1, server.budgets)
	return n + idle
}

// turns is how many whole turns n is, as whole rounds it down, each with a gap and a budget; and how many ticks the gaps are till the next turn's has gone by, the one ahead of all turns among them.
func (l late) turns(n int, whole func(s server, n int) (int, api.Errno)) (turns, idle int) {
	// There is no error to tell: n is a tick, and what it is divided by is above 0.
	turns, _ = whole(l.server, n)
	return turns, (turns + 2) * l.gap()
}
