package claim_test

import (
	"math"
	"slices"
	"testing"

	"escapement/api"
	"escapement/claim"
)

var (
	// noParts and noResources are numbers of which there are none.
	noParts     = []int{-1, 4, -2, 5, -4, 8, 64, 256, 257, 1 << 32, 1<<32 + 1, -(1 << 32), math.MinInt, math.MinInt + 1, math.MinInt + 3, math.MaxInt - 3, math.MaxInt - 1, math.MaxInt}
	noResources = []int{0, -1, 5, -2, 6, -4, 8, 64, 256, 257, 1 << 32, 1<<32 + 1, -(1 << 32) + 1, math.MinInt, math.MinInt + 1, math.MinInt + 4, math.MaxInt - 3, math.MaxInt - 1, math.MaxInt}
)

// Of a claim that is nil, or a zero one, there is nothing, whatever is asked, and ErrNil comes ahead of what else is wrong; and it stays one.
func TestNone(t *testing.T) {
	all := slices.Concat(noParts, noResources, []int{1, 2, 3})
	for _, c := range []*claim.Claim{nil, {}, new(claim.Claim)} {
		for _, x := range callsOf(all, all) {
			want := answer{e: api.ErrNil}
			if x.what == "Drop" {
				want = answer{}
			}
			if got := x.done(c); got != want {
				t.Errorf("%v of none: %v, not %v", x, got, want)
			}
		}
		if stateOf(c) != (state{}) {
			t.Errorf("of none: %v", stateOf(c))
		}
	}
}

// kinds are claims of all kinds.
func kinds(t *testing.T) []*both {
	t.Helper()
	return []*both{
		bothOf(t),
		bothOf(t, call{"Ask", 0, 1}),
		bothOf(t, call{"Ask", 3, 4}, call{"Hold", 3, 4}),
		bothOf(t, call{"Ask", 2, 3}, call{"Ask", 0, 3}, call{"Ask", 1, 2}, call{"Hold", 1, 2}),
		bothOf(t, call{"Ask", 1, 1}, call{"Ask", 0, 2}, call{"Ask", 3, 3}, call{"Ask", 2, 4}, call{"Hold", 3, 3}),
		bothOf(t, call{"Ask", 1, 1}, call{"Ask", 0, 1}, call{"Ask", 3, 1}, call{"Ask", 2, 1}, call{"Hold", 1, 1}),
		bothOf(t, call{"Ask", 1, 1}, call{"Hold", 1, 1}, call{"Give", 1, 1}, call{"Ask", 2, 2}, call{"Drop", 2, 0}),
	}
}

// P21.2, P21.3: what has a partition or a resource that there is not is answered ErrRange, ahead of what hangs on who stands where; and that changes nothing.
func TestRange(t *testing.T) {
	for _, b := range kinds(t) {
		calls := slices.Concat(
			callsOf(noParts, []int{1, 2, 3, 4}),
			callsOf([]int{0, 1, 2, 3}, noResources),
			callsOf(noParts, noResources),
		)
		for _, x := range calls {
			want := answer{e: api.ErrRange}
			if x.what == "Drop" {
				if isPart(x.part) {
					continue
				}
				want = answer{}
			}
			if got := b.do(x); got != want {
				b.fail("answer", got, want)
			}
		}
		for _, n := range noResources {
			wantLine(t, b.c, n)
			wantOne(t, "Holder", b.c.Holder, n, 0, false)
		}
		for _, n := range noParts {
			wantOne(t, "In", b.c.In, n, 0, false)
		}
	}
}

// P21.5: no error changes anything, however often it is made: of each kind of claim, each call that is answered one; neither what is told, nor what becomes of it.
func TestErrorChangesNothing(t *testing.T) {
	all := callsOf([]int{0, 1, 2, 3, -1, 4, math.MinInt, math.MaxInt}, []int{1, 2, 3, 4, 0, -1, 5, math.MinInt, math.MaxInt})
	for i := range kinds(t) {
		b, alone := kinds(t)[i], kinds(t)[i]
		errors := map[api.Errno]int{}
		for range 3 {
			for _, x := range all {
				// A copy of the model tells ahead of the call whether it will be answered one.
				m := &model{slices.Clone(b.m.stands)}
				if x.said(m).e != api.OK {
					errors[b.do(x).e]++
				}
			}
		}
		if errors[api.ErrRange] == 0 || errors[api.ErrState] == 0 || errors[api.ErrFree] == 0 {
			t.Errorf("%d: %v", i, errors)
		}
		for _, x := range callsOf([]int{0, 1, 2, 3}, []int{1, 2, 3, 4}) {
			got, want := x.done(b.c), x.done(alone.c)
			if got != want || stateOf(b.c) != stateOf(alone.c) {
				t.Fatalf("%d: behind errors, %v: %v, not %v", i, x, got, want)
			}
		}
	}
}
