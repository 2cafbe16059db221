package stack

// entry is a resource that a task has locked; of several that which was locked later is behind.
type entry struct {
	task, resource int
}

// picker tells of an entry whether it is one of those that are meant.
type picker func(entry) bool

// isBy picks those of a task.
func isBy(task int) picker {
	return func(x entry) bool { return x.task == task }
}

// isOf picks those of a resource.
func isOf(resource int) picker {
	return func(x entry) bool { return x.resource == resource }
}

// isAny picks all.
func isAny(entry) bool {
	return true
}

// resources is those of the entries that are picked, in order.
func resources(l []entry, picks picker) []int {
	var picked []int
	for _, x := range l {
		if picks(x) {
			picked = append(picked, x.resource)
		}
	}
	return picked
}

// last is the place of the last entry that is picked, if there is one.
func last(l []entry, picks picker) (place int, is bool) {
	for place = len(l) - 1; place >= 0; place-- {
		if picks(l[place]) {
			return place, true
		}
	}
	return 0, false
}

// without is all entries but that at a place.
func without(l []entry, place int) []entry {
	// What is ahead of the place is cut without spare room, so what is put behind it is not written over the entries that l has there.
	return append(l[:place:place], l[place+1:]...)
}
