package demand

import "escapement/api"

// within tells whether n is from low to high.
func within(n, low, high int) bool {
	return low <= n && n <= high
}

// tasksMayBe tells whether these are as many tasks as a partition may have, all of which may be asked.
func tasksMayBe(l []api.Task) bool {
	if len(l) > api.MaxTasks {
		return false
	}
	for _, t := range l {
		if !within(t.Period, 1, api.MaxTime) || !within(t.Deadline, 1, t.Period) || !within(t.Bound, 1, t.Deadline) {
			return false
		}
	}
	return true
}

// areMore tells whether each number may be what is more of a task.
func areMore(more []int) bool {
	for _, n := range more {
		if !within(n, 0, maxMore) {
			return false
		}
	}
	return true
}
