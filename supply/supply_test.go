package supply_test

import (
	"fmt"
	"math"
	"math/rand"
	"testing"

	"escapement/api"
	"escapement/supply"
)

const (
	maxTicks = 1 << 20
	maxGiven = 4096
)

// call is Of, or Wait.
type call func(period, budget, n int) (int, api.Errno)

// want holds one call against what it should answer. (What it tells names the call, so nobody here asks for t.Helper, which is slow.)
func want(t *testing.T, name string, f call, period, budget, n, number int, errno api.Errno) {
	if got, e := f(period, budget, n); got != number || e != errno {
		t.Errorf("%s(%d, %d, %d): %d, error %d; not %d, error %d", name, period, budget, n, got, e, number, errno)
	}
}

// wantOf holds a supply against what it should be.
func wantOf(t *testing.T, period, budget, n, number int) {
	want(t, "Of", supply.Of, period, budget, n, number, api.OK)
}

// wantWait holds a wait against what it should be.
func wantWait(t *testing.T, period, budget, n, number int) {
	want(t, "Wait", supply.Wait, period, budget, n, number, api.OK)
}

// wantArg fails the test unless both calls answer ErrArg.
func wantArg(t *testing.T, period, budget, n int) {
	want(t, "Of", supply.Of, period, budget, n, 0, api.ErrArg)
	want(t, "Wait", supply.Wait, period, budget, n, 0, api.ErrArg)
}

// of is a supply that must be answered.
func of(t *testing.T, period, budget, n int) int {
	got, e := supply.Of(period, budget, n)
	if e != api.OK {
		t.Fatalf("Of(%d, %d, %d): error %d", period, budget, n, e)
	}
	return got
}

// everyServer does something for each server that there may be.
func everyServer(do func(period, budget int)) {
	for period := 1; period <= api.MaxTime; period++ {
		for budget := 1; budget <= period; budget++ {
			do(period, budget)
		}
	}
}

// runs tells, tick by tick, whether a server runs that gives least, as the chapter says it: in the first ticks of a period, and in the last ones of each from then on. The row begins behind its budget of the first period.
func runs(period, budget int) func() bool {
	in, first := budget, true
	return func() bool {
		if in == period {
			in, first = 0, false
		}
		in++
		return !first && in > period-budget
	}
}

// modelOf is the supply of 0 to most ticks.
func modelOf(period, budget, most int) []int {
	l, run := []int{0}, runs(period, budget)
	for len(l) <= most {
		given := l[len(l)-1]
		if run() {
			given++
		}
		l = append(l, given)
	}
	return l
}

// modelWait is the least ticks whose supply is 0 to most.
func modelWait(period, budget, most int) []int {
	l, run := []int{0}, runs(period, budget)
	for t := 1; len(l) <= most; t++ {
		if run() {
			l = append(l, t)
		}
	}
	return l
}

// The chapter's examples.
func TestExamples(t *testing.T) {
	for n, number := range []int{0, 0, 0, 0, 0, 0, 0, 1, 2, 2, 2, 2, 3, 4, 4} {
		wantOf(t, 5, 2, n, number)
	}
	wantOf(t, 1, 1, 7, 7)
	want(t, "Of", supply.Of, 5, 6, 1, 0, api.ErrArg)
	want(t, "Of", supply.Of, 0, 0, 1, 0, api.ErrArg)
	wantWait(t, 5, 2, 1, 7)
	wantWait(t, 5, 2, 3, 12)
	wantWait(t, 5, 2, 0, 0)
}

// P7.1: a period of 1 and of 64, a budget of 1 and of the whole period; no tick, the ends of the gaps, one beside each, and the most ticks.
func TestOfEdges(t *testing.T) {
	for _, row := range []struct {
		period, budget int
		answers        map[int]int // by t
	}{
		{1, 1, map[int]int{0: 0, 1: 1, 2: 2, 64: 64, maxTicks - 1: maxTicks - 1, maxTicks: maxTicks}},
		{2, 1, map[int]int{0: 0, 1: 0, 2: 0, 3: 1, 4: 1, 5: 2, maxTicks - 1: maxTicks/2 - 1, maxTicks: maxTicks/2 - 1}},
		{5, 5, map[int]int{0: 0, 1: 1, 4: 4, 5: 5, 6: 6, maxTicks: maxTicks}},
		{5, 4, map[int]int{0: 0, 1: 0, 2: 0, 3: 1, 5: 3, 6: 4, 7: 4, 8: 5, 11: 8, 12: 8}},
		{5, 1, map[int]int{0: 0, 3: 0, 4: 0, 5: 0, 7: 0, 8: 0, 9: 1, 10: 1, 13: 1, 14: 2}},
		{5, 3, map[int]int{1: 0, 2: 0, 3: 0, 4: 0, 5: 1, 6: 2, 7: 3, 8: 3, 9: 3, 10: 4}},
		{64, 64, map[int]int{0: 0, 1: 1, 63: 63, 64: 64, 65: 65, maxTicks - 1: maxTicks - 1, maxTicks: maxTicks}},
		{64, 63, map[int]int{0: 0, 1: 0, 2: 0, 3: 1, 64: 62, 65: 63, 66: 63, 67: 64, maxTicks: 63*16384 - 1}},
		{64, 32, map[int]int{31: 0, 32: 0, 33: 0, 63: 0, 64: 0, 65: 1, 96: 32, 128: 32, 129: 33, maxTicks: 32 * 16383}},
		{64, 1, map[int]int{0: 0, 1: 0, 62: 0, 63: 0, 64: 0, 125: 0, 126: 0, 127: 1, 128: 1, 190: 1, 191: 2, maxTicks - 1: 16383, maxTicks: 16383}},
	} {
		for n, number := range row.answers {
			wantOf(t, row.period, row.budget, n, number)
		}
	}
}

// P7.1: every server, of few ticks, and of the most; each turn is like the one ahead of it.
func TestOfEveryServer(t *testing.T) {
	everyServer(func(period, budget int) {
		model := modelOf(period, budget, 5*api.MaxTime)
		for n, number := range model {
			wantOf(t, period, budget, n, number)
		}
		for n := period; n < 2*period; n++ {
			turns := (maxTicks - n) / period
			wantOf(t, period, budget, n+turns*period, model[n]+turns*budget)
		}
	})
}

// P7.1: some servers, of all ticks that may be asked for.
func TestOfAllTicks(t *testing.T) {
	for _, s := range [][2]int{{1, 1}, {2, 1}, {5, 2}, {63, 62}, {64, 1}, {64, 63}, {64, 64}} {
		for n, number := range modelOf(s[0], s[1], maxTicks) {
			wantOf(t, s[0], s[1], n, number)
		}
	}
}

// P7.2: a period of 1 and of 64, a budget of 1 and of the whole period; nothing, a budget, one beside it, and the most that may be waited for.
func TestWaitEdges(t *testing.T) {
	for _, row := range []struct {
		period, budget int
		answers        map[int]int // by n
	}{
		{1, 1, map[int]int{0: 0, 1: 1, 2: 2, maxGiven - 1: maxGiven - 1, maxGiven: maxGiven}},
		{2, 1, map[int]int{0: 0, 1: 3, 2: 5, 3: 7, maxGiven: 2*maxGiven + 1}},
		{5, 5, map[int]int{0: 0, 1: 1, 4: 4, 5: 5, 6: 6, 10: 10, 11: 11}},
		{5, 4, map[int]int{0: 0, 1: 3, 3: 5, 4: 6, 5: 8, 8: 11, 9: 13}},
		{5, 2, map[int]int{0: 0, 1: 7, 2: 8, 3: 12, 4: 13, 5: 17, maxGiven - 1: 10242, maxGiven: 10243}},
		{5, 1, map[int]int{0: 0, 1: 9, 2: 14, 3: 19}},
		{64, 64, map[int]int{0: 0, 1: 1, 63: 63, 64: 64, 65: 65, maxGiven: maxGiven}},
		{64, 63, map[int]int{0: 0, 1: 3, 62: 64, 63: 65, 64: 67, 126: 129, 127: 131, maxGiven: 4163}},
		{64, 1, map[int]int{0: 0, 1: 127, 2: 191, maxGiven - 1: 262143, maxGiven: 262207}},
	} {
		for n, number := range row.answers {
			wantWait(t, row.period, row.budget, n, number)
		}
	}
}

// P7.2: every server, and all that may be waited for.
func TestWaitEveryServer(t *testing.T) {
	everyServer(func(period, budget int) {
		for n, number := range modelWait(period, budget, maxGiven) {
			wantWait(t, period, budget, n, number)
		}
	})
}

// P7.2: what is waited for is given then, and not a tick sooner.
func TestWaitIsLeast(t *testing.T) {
	everyServer(func(period, budget int) {
		for _, n := range []int{1, budget - 1, budget, budget + 1, 2 * budget, 2*budget + 1, period, 1000, maxGiven - 1, maxGiven} {
			wait, e := supply.Wait(period, budget, n)
			if e != api.OK {
				t.Fatalf("Wait(%d, %d, %d): error %d", period, budget, n, e)
			}
			if got := of(t, period, budget, wait); got < n {
				t.Errorf("Wait(%d, %d, %d) is %d, whose supply is %d", period, budget, n, wait, got)
			}
			if n == 0 {
				continue
			}
			if got := of(t, period, budget, wait-1); got >= n {
				t.Errorf("Wait(%d, %d, %d) is %d, but the supply of one less is %d", period, budget, n, wait, got)
			}
		}
	})
}

// far are numbers that are too small, or too great, wherever they stand.
var far = []int{math.MinInt, math.MinInt + 1, -(1 << 40), -(1 << 32), -(1 << 32) + 1, -maxTicks, -64, -5, -2, -1, maxTicks + 1, maxTicks + 2, 1 << 32, 1<<32 + 1, api.MaxTick, api.MaxTick + 1, math.MaxInt - 1, math.MaxInt}

// P7.1, P7.2: servers that there may not be, whatever else is asked.
func TestNoServer(t *testing.T) {
	for _, n := range append([]int{0, 1, 7, maxGiven, maxTicks}, far...) {
		for _, bad := range append([]int{0, 65, 66, 128, maxGiven}, far...) {
			for _, budget := range append([]int{0, 1, 2, 64, 65, bad - 1, bad, bad + 1}, far...) {
				wantArg(t, bad, budget, n)
			}
			for _, period := range []int{1, 2, 5, 63, 64} {
				wantArg(t, period, bad, n)
			}
		}
		for period := 1; period <= api.MaxTime; period++ {
			wantArg(t, period, period+1, n)
			wantArg(t, period, 0, n)
			wantArg(t, period, -1, n)
			wantArg(t, period, -period, n)
		}
	}
}

// P7.1, P7.2: counts that may not be asked for, and those beside them that may.
func TestNoCount(t *testing.T) {
	everyServer(func(period, budget int) {
		for _, n := range far {
			wantArg(t, period, budget, n)
		}
		for _, n := range []int{maxGiven + 1, maxGiven + 2, maxTicks} {
			want(t, "Wait", supply.Wait, period, budget, n, 0, api.ErrArg)
		}
		for _, n := range []int{0, maxGiven, maxGiven + 1, maxTicks} {
			of(t, period, budget, n)
		}
		for _, n := range []int{0, maxGiven} {
			if _, e := supply.Wait(period, budget, n); e != api.OK {
				t.Errorf("Wait(%d, %d, %d): error %d", period, budget, n, e)
			}
		}
	})
}

// ways does something for each way to run in so many periods; a row tells, by tick, whether the server runs.
func ways(period, budget, periods int, do func(row []bool)) {
	row := make([]bool, 0, period*periods)
	var next func(left int)
	next = func(left int) {
		if len(row) == cap(row) {
			do(row)
			return
		}
		still := period - len(row)%period // ticks of this period
		if still == period {
			left = budget
		}
		for _, run := range []bool{true, false} {
			if run && left > 0 || !run && left < still {
				rest := left
				if run {
					rest--
				}
				row = append(row, run)
				next(rest)
				row = row[:len(row)-1]
			}
		}
	}
	next(0)
}

// lower lets each of least, by how many ticks in a row they are, be no more than any of these gives.
func lower(least []int, row []bool) {
	for from := range row {
		given := 0
		for i, run := range row[from:] {
			if run {
				given++
			}
			least[i+1] = min(least[i+1], given)
		}
	}
}

// leastOf is what every way gives at least, by how many ticks in a row they are.
func leastOf(period, budget, periods int) (least []int, many int) {
	least = make([]int, period*periods+1)
	for i := range least {
		least[i] = i
	}
	ways(period, budget, periods, func(row []bool) {
		many++
		lower(least, row)
	})
	return least, many
}

// P7.1, P7.3: small servers in every way: no ticks in a row give less than the supply, and some way gives just so many.
func TestEveryWay(t *testing.T) {
	for _, row := range []struct{ period, budget, periods, ways int }{
		{1, 1, 6, 1}, {2, 1, 6, 64}, {2, 2, 5, 1}, {3, 1, 5, 243}, {3, 2, 5, 243}, {3, 3, 4, 1},
		{4, 1, 4, 256}, {4, 2, 4, 1296}, {4, 3, 4, 256}, {4, 4, 4, 1},
		{5, 1, 4, 625}, {5, 2, 4, 10000}, {5, 3, 4, 10000}, {5, 4, 4, 625}, {5, 5, 3, 1},
		{6, 1, 4, 1296}, {6, 2, 3, 3375}, {6, 3, 3, 8000}, {6, 4, 3, 3375}, {6, 5, 4, 1296}, {6, 6, 3, 1},
	} {
		least, many := leastOf(row.period, row.budget, row.periods)
		if many != row.ways {
			t.Fatalf("%+v: %d ways were tried", row, many)
		}
		for n, given := range least {
			got := of(t, row.period, row.budget, n)
			if got > given {
				t.Errorf("Of(%d, %d, %d): %d, but a way gives %d", row.period, row.budget, n, got, given)
			}
			// Longer rows can't begin behind the budget of the first period.
			if n <= row.period*row.periods-row.budget && got != given {
				t.Errorf("Of(%d, %d, %d): %d, but no way gives less than %d", row.period, row.budget, n, got, given)
			}
		}
	}
}

// someWay is any way of a server to run in so many periods.
func someWay(random *rand.Rand, period, budget, periods int) []bool {
	row := make([]bool, period*periods)
	for p := range periods {
		order := random.Perm(period)
		switch random.Intn(3) {
		case 0: // the first ticks
			for i := range order {
				order[i] = i
			}
		case 1: // the last ones
			for i := range order {
				order[i] = period - 1 - i
			}
		}
		for _, i := range order[:budget] {
			row[p*period+i] = true
		}
	}
	return row
}

// P7.3: servers of all sizes in some of their ways.
func TestSomeWays(t *testing.T) {
	random := rand.New(rand.NewSource(73))
	everyServer(func(period, budget int) {
		row := someWay(random, period, budget, 5)
		least := make([]int, len(row)+1)
		for i := range least {
			least[i] = i
		}
		lower(least, row)
		for n, given := range least {
			if got := of(t, period, budget, n); got > given {
				t.Fatalf("Of(%d, %d, %d): %d, but a way gives %d", period, budget, n, got, given)
			}
		}
	})
}

// P7.4: a period more is a budget more, from the end of the gap on; a tick more is one more at most, and none fewer.
func TestMore(t *testing.T) {
	everyServer(func(period, budget int) {
		gap := period - budget
		for _, from := range []int{0, gap, 2 * gap, 4096, maxTicks/2 - 100, maxTicks - 3*period} {
			for n := from; n < from+2*period; n++ {
				now := of(t, period, budget, n)
				if more := of(t, period, budget, n+1) - now; more < 0 || more > 1 {
					t.Fatalf("Of(%d, %d, ..): %d more of %d ticks than of one fewer", period, budget, more, n+1)
				}
				if more := of(t, period, budget, n+period) - now; n >= gap && more != budget {
					t.Fatalf("Of(%d, %d, ..): %d more of %d ticks than of a period fewer", period, budget, more, n+period)
				}
			}
		}
	})
}

// R2: what is answered hangs on what is handed in alone: calls in between count for nothing.
func TestNothingKept(t *testing.T) {
	answers := func() string {
		a, aE := supply.Of(5, 2, 12)
		b, bE := supply.Wait(5, 2, 3)
		return fmt.Sprint(a, aE, b, bE)
	}
	for _, between := range [][3]int{{64, 1, 4096}, {1, 1, 0}, {0, 0, 0}, {5, 6, 1}, {5, 2, -1}, {5, 2, math.MaxInt}} {
		supply.Of(between[0], between[1], between[2])
		supply.Wait(between[0], between[1], between[2])
		if got := answers(); got != "3 0 12 0" {
			t.Errorf("behind %v: %s", between, got)
		}
	}
}
