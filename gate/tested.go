package gate

import (
	"escapement/api"
	"escapement/local"
	"escapement/share"
)

// nobody is told where it is no partition alone that can't run.
const nobody = -1

// tested tests those of the partitions that are in.
func tested(l []api.Part, in []bool) (part, at int, e api.Errno) {
	those, numbers := gathered(cleared(l, in))
	if e = share.Test(those); e != api.OK {
		return nobody, 0, e
	}
	for i, number := range numbers {
		if at, e = local.Test(those, i); e != api.OK {
			return number, at, e
		}
	}
	return nobody, 0, api.OK
}

// cleared is a copy of the partitions that has nothing where nobody is in.
func cleared(l []api.Part, in []bool) []api.Part {
	would := copiedList(l)
	for i, is := range in {
		if !is {
			clear(would[i : i+1])
		}
	}
	return would
}

// gathered are the partitions where there is something, in their order, and the number of each.
func gathered(l []api.Part) (those []api.Part, numbers []int) {
	for i, p := range l {
		// There is no partition with a Period of 0.
		if p.Period > 0 {
			those, numbers = append(those, p), append(numbers, i)
		}
	}
	return those, numbers
}
