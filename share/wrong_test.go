package share_test

import (
	"math"
	"slices"
	"testing"

	"escapement/api"
	"escapement/share"
)

// far are numbers that are no Period and no Budget, and are far from one.
var far = []int{math.MinInt, math.MinInt + 1, -(1 << 40), -(1 << 32), -(1 << 32) + 1, -65, -64, -2, -1, 1 << 32, 1<<32 + 1, api.MaxTick, api.MaxTick + 1, math.MaxInt - 1, math.MaxInt}

// wantWrong fails the test unless these are no servers.
func wantWrong(t *testing.T, l []api.Part) {
	t.Helper()
	if top, below, e := share.Sum(l); top != 0 || below != 0 || e != api.ErrArg {
		t.Errorf("Sum(%v): %d / %d, error %d; not error %d alone", l, top, below, e, api.ErrArg)
	}
	wantTest(t, l, api.ErrArg)
}

// wantWrongServer fails the test unless there may be no such server: alone, and wherever it stands among others, whether these share little or too much.
func wantWrongServer(t *testing.T, bad api.Part) {
	t.Helper()
	for _, all := range [][]api.Part{servers(1, 4, 1, 8, 1, 8), servers(1, 1, 1, 1, 64, 64)} {
		for many := range len(all) + 1 {
			for i := range many + 1 {
				wantWrong(t, slices.Insert(slices.Clone(all[:many]), i, bad))
			}
		}
	}
}

// P11.1, P11.2: five servers, and more, whether they share little or too much.
func TestTooMany(t *testing.T) {
	for _, p := range append(servers(1, 64, 1, 1, 12, 60, 64, 64), api.Part{}) {
		for _, many := range []int{5, 6, 8, 9, 100, 65536} {
			wantWrong(t, slices.Repeat([]api.Part{p}, many))
		}
	}
	wantWrong(t, servers(1, 64, 1, 64, 1, 64, 1, 64, 0, 0))
}

// P11.1, P11.2: a Period of 0 and of 65, and others that there are not.
func TestNoPeriod(t *testing.T) {
	for _, period := range append([]int{0, 65, 66}, far...) {
		for _, budget := range append([]int{0, 1, 2, 64, 65, period}, far...) {
			wantWrongServer(t, server(budget, period))
		}
	}
}

// P11.1, P11.2: a Budget of 0, of the Period + 1, and others that there are not, with each Period.
func TestNoBudget(t *testing.T) {
	for period := 1; period <= api.MaxTime; period++ {
		wantWrongServer(t, server(0, period))
		wantWrongServer(t, server(-period, period))
		for budget := period + 1; budget <= api.MaxTime+1; budget++ {
			wantWrongServer(t, server(budget, period))
		}
		for _, budget := range far {
			wantWrongServer(t, server(budget, period))
		}
	}
}

// P11.1, P11.2: several that are none; what would come out between just so is none, either.
func TestSeveralWrong(t *testing.T) {
	for _, l := range [][]api.Part{
		servers(0, 0), servers(0, 0, 0, 0), servers(3, 2, 0, 2), servers(-1, 2, 1, 2), servers(1, -2, 1, 2),
		servers(0, 1, 0, 1, 0, 1, 0, 1), servers(65, 65), servers(1, 65, 1, 2), servers(-1, -2, -1, -2),
		servers(math.MaxInt, math.MaxInt), servers(math.MinInt, math.MinInt), servers(1, math.MaxInt, 1, math.MinInt),
	} {
		wantWrong(t, l)
	}
}
