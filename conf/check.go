package conf

import "escapement/api"

const (
	allLocals = 1<<api.MaxLocals - 1 // a bit of each local resource
	maxAge    = 64                   // of a sample
)

// within tells whether n is from low to high.
func within(n, low, high int) bool {
	return low <= n && n <= high
}

// partsMayBe tells whether these are the partitions of a configuration that may be.
func partsMayBe(l []api.Part) bool {
	may := within(len(l), 1, api.MaxParts)
	if !may {
		return false
	}
parts:
	for _, p := range l {
		if may = serverMayBe(p); !may {
			break
		}
		for _, t := range p.Tasks {
			if may = taskMayBe(t, p.Budget); !may {
				break parts
			}
		}
	}
	return may
}

// serverMayBe tells whether a partition's own numbers may be, and how many tasks it has.
func serverMayBe(p api.Part) bool {
	return within(p.Period, 1, api.MaxTime) && within(p.Budget, 1, p.Period) && len(p.Tasks) <= api.MaxTasks
}

// taskMayBe tells whether a task of a partition with that budget may be.
func taskMayBe(t api.Task, budget int) bool {
	return timesMayBe(t) && localsMayBe(t) && globalMayBe(t, budget)
}

// timesMayBe tells whether it may be how often, how soon and how long a task is.
func timesMayBe(t api.Task) bool {
	return within(t.Period, 1, api.MaxTime) && within(t.Deadline, 1, t.Period) && within(t.Bound, 1, t.Deadline)
}

// localsMayBe tells whether a task, whose times may be, may lock so.
func localsMayBe(t api.Task) bool {
	if t.Locals == 0 {
		return t.Local == 0
	}
	return within(t.Locals, 1, allLocals) && within(t.Local, 1, t.Bound)
}

// globalMayBe tells whether a task, whose times may be, may take so what partitions share.
func globalMayBe(t api.Task, budget int) bool {
	if t.Global == 0 {
		return t.Long == 0 && t.Locks == 0
	}
	// Long times Locks itself may wrap round; the quotient can't.
	return within(t.Global, 1, api.MaxGlobals) && within(t.Long, 1, budget) && within(t.Locks, 1, t.Bound/t.Long)
}

// portsMayBe tells whether these are the ports of a configuration that may be, between so many partitions.
func portsMayBe(l []api.Port, parts int) bool {
	if len(l) > api.MaxPorts {
		return false
	}
	for _, p := range l {
		if !endsMayBe(p, parts) || !within(p.Size, 1, api.MaxBytes) || !keptMayBe(p) {
			return false
		}
	}
	return true
}

// endsMayBe tells whether a port may go from and to these of so many partitions.
func endsMayBe(p api.Port, parts int) bool {
	return within(p.From, 0, parts-1) && within(p.To, 0, parts-1) && p.From != p.To
}

// keptMayBe tells whether it may be what a port of its kind keeps, and for how long.
func keptMayBe(p api.Port) bool {
	switch p.Kind {
	case api.PortSample:
		return p.Depth == 0 && within(p.Age, 1, maxAge)
	case api.PortQueue:
		return within(p.Depth, 1, api.MaxDepth) && p.Age == 0
	}
	return false
}
