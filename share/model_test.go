package share_test

import (
	"math/rand"
	"slices"
	"testing"

	"escapement/api"
	"escapement/share"
)

// server is a partition of which only the server is looked at.
func server(budget, period int) api.Part {
	return api.Part{Period: period, Budget: budget}
}

// servers are those of some numbers: the Budget and the Period of each.
func servers(numbers ...int) []api.Part {
	var l []api.Part
	for i := 0; i+1 < len(numbers); i += 2 {
		l = append(l, server(numbers[i], numbers[i+1]))
	}
	return l
}

// leastAbove are servers that share more than 1 by the least that there is: their Periods have the greatest least common multiple of all.
func leastAbove() []api.Part {
	return servers(31, 59, 5, 61, 8, 63, 17, 64)
}

// mostBelow are servers that share less than 1 by the least that there is.
func mostBelow() []api.Part {
	return servers(1, 57, 3, 59, 33, 61, 25, 64)
}

// small are all servers with Periods up to most.
func small(most int) []api.Part {
	var l []api.Part
	for period := 1; period <= most; period++ {
		for budget := 1; budget <= period; budget++ {
			l = append(l, server(budget, period))
		}
	}
	return l
}

// upTo is any number from 1 to n, often one of its edges.
func upTo(random *rand.Rand, n int) int {
	switch random.Intn(5) {
	case 0:
		return 1
	case 1:
		return n
	}
	return 1 + random.Intn(n)
}

// someServers are up to four servers of all sizes, about half of which share more than 1.
func someServers(random *rand.Rand) []api.Part {
	var l []api.Part
	many := random.Intn(api.MaxParts + 1)
	for range many {
		period := upTo(random, api.MaxTime)
		if random.Intn(2) == 0 {
			period = []int{2, 3, 4, 6, 8, 12, 24, 48}[random.Intn(8)]
		}
		budget := upTo(random, period)
		if random.Intn(3) != 0 {
			budget = upTo(random, max(1, period*2/(many+1)))
		}
		l = append(l, server(budget, period))
	}
	return l
}

// wantSum fails the test unless servers share just so much.
func wantSum(t *testing.T, l []api.Part, top, below int) {
	t.Helper()
	gotTop, gotBelow, e := share.Sum(l)
	if gotTop != top || gotBelow != below || e != api.OK {
		t.Errorf("Sum(%v): %d / %d, error %d; not %d / %d", l, gotTop, gotBelow, e, top, below)
	}
}

// wantTest fails the test unless servers' test answers just that.
func wantTest(t *testing.T, l []api.Part, errno api.Errno) {
	t.Helper()
	if e := share.Test(l); e != errno {
		t.Errorf("Test(%v): error %d; not %d", l, e, errno)
	}
}

// wantModel fails the test unless the sum of servers, counted in as many parts as their Periods multiplied, is what they share, in lowest terms, and their test answers as that says; it answers the test's error.
func wantModel(t *testing.T, l []api.Part) api.Errno {
	t.Helper()
	whole, parts := 1, 0
	for _, p := range l {
		whole *= p.Period
	}
	for _, p := range l {
		parts += whole / p.Period * p.Budget
	}
	top, below, e := share.Sum(l)
	if e != api.OK || top < 0 || below < 1 || top*whole != parts*below || !isLowest(top, below) {
		t.Fatalf("Sum(%v): %d / %d, error %d; not %d / %d, in lowest terms", l, top, below, e, parts, whole)
	}
	errno := api.OK
	if parts > whole {
		errno = api.ErrRefused
	}
	wantTest(t, l, errno)
	return errno
}

// isLowest tells whether nothing above 1 divides both.
func isLowest(a, b int) bool {
	for a > 0 {
		a, b = b%a, a
	}
	return b == 1
}

// copied is a list that shares nothing with another one.
func copied(l []api.Part) []api.Part {
	l = slices.Clone(l)
	for i := range l {
		room := slices.Clone(l[i].Tasks[:cap(l[i].Tasks)])
		l[i].Tasks = room[:len(l[i].Tasks)]
	}
	return l
}

// same tells whether two lists, with their tasks, and the spare room of these, are the same.
func same(l, m []api.Part) bool {
	return slices.EqualFunc(l, m, func(p, q api.Part) bool {
		n := len(p.Tasks)
		return p.Period == q.Period && p.Budget == q.Budget && n == len(q.Tasks) &&
			slices.Equal(p.Tasks[:n+1], q.Tasks[:n+1])
	})
}
