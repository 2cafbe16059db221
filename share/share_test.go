package share_test

import (
	"math/rand"
	"slices"
	"testing"

	"escapement/api"
	"escapement/share"
)

// The chapter's examples.
func TestExamples(t *testing.T) {
	wantSum(t, nil, 0, 1)
	wantSum(t, servers(1, 2, 1, 3), 5, 6)
	wantSum(t, servers(2, 4, 1, 2), 1, 1)
	wantTest(t, servers(1, 2, 1, 2), api.OK)
	wantTest(t, servers(1, 2, 1, 2, 1, 64), api.ErrRefused)
	wantTest(t, servers(3, 2), api.ErrArg)
}

// P11.1, P11.2: no servers, told by nil or by an empty list.
func TestNone(t *testing.T) {
	for _, l := range [][]api.Part{nil, {}, servers(1, 2)[:0]} {
		wantSum(t, l, 0, 1)
		wantTest(t, l, api.OK)
	}
}

// P11.1, P11.2: sums that are in lowest terms as they stand, and such as are not.
func TestSums(t *testing.T) {
	for _, r := range []struct {
		l          []api.Part
		top, below int
		e          api.Errno
	}{
		{servers(1, 1), 1, 1, api.OK},
		{servers(1, 64), 1, 64, api.OK},
		{servers(64, 64), 1, 1, api.OK},
		{servers(63, 64), 63, 64, api.OK},
		{servers(48, 64), 3, 4, api.OK},
		{servers(2, 5), 2, 5, api.OK},
		{servers(1, 1, 1, 1), 2, 1, api.ErrRefused},
		{servers(1, 1, 1, 1, 1, 1), 3, 1, api.ErrRefused},
		{servers(1, 1, 1, 1, 1, 1, 1, 1), 4, 1, api.ErrRefused},
		{servers(64, 64, 1, 1, 64, 64, 1, 1), 4, 1, api.ErrRefused},
		{servers(1, 64, 1, 64, 1, 64, 1, 64), 1, 16, api.OK},
		{servers(16, 64, 16, 64, 16, 64, 16, 64), 1, 1, api.OK},
		{servers(17, 64, 16, 64, 16, 64, 16, 64), 65, 64, api.ErrRefused},
		{servers(16, 64, 16, 64, 16, 64, 15, 64), 63, 64, api.OK},
		{servers(1, 2, 1, 4), 3, 4, api.OK},
		{servers(1, 2, 1, 4, 1, 4), 1, 1, api.OK},
		{servers(1, 2, 1, 4, 1, 8, 1, 8), 1, 1, api.OK},
		{servers(1, 2, 1, 3, 1, 6), 1, 1, api.OK},
		{servers(1, 2, 1, 3, 1, 7, 1, 42), 1, 1, api.OK},
		{servers(1, 6, 1, 10, 1, 15), 1, 3, api.OK},
		{servers(5, 6, 5, 6), 5, 3, api.ErrRefused},
		{servers(1, 1, 1, 64), 65, 64, api.ErrRefused},
		{servers(63, 64, 1, 64), 1, 1, api.OK},
		{servers(63, 64, 1, 63), 4033, 4032, api.ErrRefused},
		{servers(62, 63, 1, 64), 4031, 4032, api.OK},
		{servers(1, 2, 1, 3, 1, 5, 1, 7), 247, 210, api.ErrRefused},
	} {
		wantSum(t, r.l, r.top, r.below)
		wantTest(t, r.l, r.e)
	}
}

// P11.1, P11.2: four Periods without a common divisor; the sums that are nearest to 1.
func TestFourApart(t *testing.T) {
	wantSum(t, servers(1, 64, 1, 63, 1, 61, 1, 59), 940913, 14511168)
	wantTest(t, servers(1, 64, 1, 63, 1, 61, 1, 59), api.OK)
	wantSum(t, servers(63, 64, 62, 63, 60, 61, 58, 59), 57103759, 14511168)
	wantTest(t, servers(63, 64, 62, 63, 60, 61, 58, 59), api.ErrRefused)
	wantSum(t, leastAbove(), 14511169, 14511168)
	wantTest(t, leastAbove(), api.ErrRefused)
	wantSum(t, mostBelow(), 13129151, 13129152)
	wantTest(t, mostBelow(), api.OK)
	// One budget less, and one more, of any of them.
	for i := range 4 {
		l := leastAbove()
		l[i].Budget--
		wantTest(t, l, api.OK)
		if l = mostBelow(); l[i].Budget < l[i].Period {
			l[i].Budget++
			wantTest(t, l, api.ErrRefused)
		}
	}
}

// P11.1, P11.2: every server, alone, and with every other one.
func TestEveryTwo(t *testing.T) {
	var all []api.Part
	for period := 1; period <= api.MaxTime; period++ {
		for budget := 1; budget <= period; budget++ {
			all = append(all, server(budget, period))
		}
	}
	for i, p := range all {
		wantModel(t, []api.Part{p})
		for _, q := range all[:i+1] {
			wantModel(t, []api.Part{p, q})
		}
	}
}

// P11.1, P11.2: three and four small servers, every one.
func TestEveryFourSmall(t *testing.T) {
	all := small(6)
	for _, p := range all {
		for _, q := range all {
			for _, r := range all {
				wantModel(t, []api.Part{p, q, r})
				for _, s := range all {
					wantModel(t, []api.Part{p, q, r, s})
				}
			}
		}
	}
}

// P11.1, P11.2: servers of all sizes; their order changes nothing.
func TestOrder(t *testing.T) {
	random := rand.New(rand.NewSource(111))
	for range 20000 {
		l := someServers(random)
		errno := wantModel(t, l)
		top, below, _ := share.Sum(l)
		for range 4 {
			random.Shuffle(len(l), func(i, j int) { l[i], l[j] = l[j], l[i] })
			wantSum(t, l, top, below)
			wantTest(t, l, errno)
		}
	}
}

// P11.1, P11.2: tasks are not looked at, even those that could not be asked.
func TestTasksAreNotLookedAt(t *testing.T) {
	for _, tasks := range [][]api.Task{
		{},
		{{}},
		{{Period: 8, Deadline: 8, Bound: 2}},
		{{Period: 65, Deadline: -1, Bound: 1 << 62, Locals: -1, Local: 99, Global: 9, Long: -5, Locks: 1 << 40}},
		slices.Repeat([]api.Task{{Period: 1, Deadline: 1, Bound: 1}}, 100),
	} {
		for _, r := range []struct {
			l          []api.Part
			top, below int
			e          api.Errno
		}{
			{servers(1, 2, 1, 3), 5, 6, api.OK},
			{servers(2, 4, 1, 2), 1, 1, api.OK},
			{servers(1, 2, 1, 2, 1, 64), 65, 64, api.ErrRefused},
		} {
			for i := range r.l {
				r.l[i].Tasks = tasks
				wantSum(t, r.l, r.top, r.below)
				wantTest(t, r.l, r.e)
			}
		}
	}
}

// DOC.md, Memory: what is handed in is left as it was, its spare room too.
func TestHandedInIsLeft(t *testing.T) {
	for _, l := range [][]api.Part{
		servers(2, 4, 1, 2, 9, 9, 7, 5, 4, 4),
		servers(1, 2, 1, 2, 1, 64, 3, 3),
		servers(6, 8, 3, 2, 1, 1, 2, 2),
		servers(1, 2, 1, 0, 8, 8, 6, 9, 5, 5, 3, 3),
	} {
		for i := range l {
			l[i].Tasks = []api.Task{{Period: i, Bound: 7}, {Deadline: -i}}[:1]
		}
		was := copied(l)
		for many := range len(l) + 1 {
			share.Sum(l[:many])
			share.Test(l[:many])
		}
		if !same(l, was) {
			t.Errorf("%v is %v behind the calls", was, l)
		}
	}
}
