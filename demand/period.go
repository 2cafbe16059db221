package demand

import (
	"escapement/api"
	"escapement/ticks"
)

// periods are those of tasks.
func periods(l []api.Task) []int {
	all := make([]int, len(l))
	for i, t := range l {
		all[i] = t.Period
	}
	return all
}

// allDivide tells whether each period divides n.
func allDivide(n int, periods []int) bool {
	for _, p := range periods {
		if n%p != 0 {
			return false
		}
	}
	return true
}

// multiple is the least common one of periods, if a hyperperiod may be so great.
func multiple(periods ...int) (int, api.Errno) {
	n, e := ticks.Lcm(api.MaxHyper, periods...)
	// All periods are ticks above 0, so the limit is all that can be wrong.
	if e != api.OK {
		return 0, api.ErrLimit
	}
	return n, api.OK
}
