package gate_test

import (
	"math"
	"slices"
	"testing"

	"escapement/api"
)

// far are numbers that are no partition, no period and no budget, and are far from one.
var far = []int{math.MinInt, math.MinInt + 1, -(1 << 40), -(1 << 32), -(1 << 32) + 1, -65, -64, -4, -2, -1, 1 << 32, 1<<32 + 1, api.MaxTick, api.MaxTick + 1, math.MaxInt - 1, math.MaxInt}

// wantWrong fails the test unless a configuration may not be, whoever is in, and whatever is asked of it.
func wantWrong(t *testing.T, c api.Config) {
	for many := range 6 {
		for _, in := range [][]bool{who(many), slices.Repeat([]bool{true}, many)} {
			wantTest(t, c, in, 0, 0, api.ErrConf)
			for _, part := range []int{math.MinInt, -1, 0, 1, len(c.Parts) - 1, len(c.Parts), math.MaxInt} {
				wantJoin(t, c, in, part, api.ErrConf)
				for _, n := range []int{math.MinInt, 0, 1, 8, 65} {
					wantChange(t, c, in, part, n, n, api.ErrConf)
				}
			}
		}
	}
}

// P12.1 to P12.3: a configuration that may not be, ahead of all others, even if what is wrong is not in, or is what would be changed.
func TestNoConfig(t *testing.T) {
	wantWrong(t, api.Config{})
	wantWrong(t, api.Config{Ports: []api.Port{sample(0, 1)}})
	wantWrong(t, config(slices.Repeat([]api.Part{part(1, 8)}, 5)...))
	for _, bad := range []api.Part{
		{}, part(0, 8), part(9, 8), part(1, 65), part(65, 65), part(-1, 8), part(math.MaxInt, math.MaxInt), part(math.MinInt, 8),
		part(1, 8, api.Task{}), part(1, 8, task(8, 9, 1)), part(1, 8, task(8, 4, 5)), part(1, 8, task(65, 8, 1)),
		part(1, 8, takes(task(8, 8, 4), 1, 2, 1)), part(2, 8, takes(task(8, 8, 4), 5, 2, 1)), part(2, 8, takes(task(8, 8, 4), 1, 2, 3)),
		part(1, 8, api.Task{Period: 8, Deadline: 8, Bound: 1, Local: 1}), part(1, 8, api.Task{Period: 8, Deadline: 8, Bound: 1, Locals: 256, Local: 1}),
		part(1, 8, slices.Repeat([]api.Task{task(64, 64, 1)}, 5)...),
	} {
		for many := range api.MaxParts {
			for i := range many + 1 {
				wantWrong(t, config(slices.Insert(slices.Repeat([]api.Part{part(1, 4)}, many), i, bad)...))
			}
		}
	}
	for _, bad := range []api.Port{{}, sample(0, 0), sample(0, 2), sample(-1, 0), {Kind: 3, From: 0, To: 1, Size: 1, Age: 1}} {
		c := config(part(1, 4), part(1, 4))
		c.Ports = []api.Port{sample(0, 1), bad}
		wantWrong(t, c)
	}
	c := config(part(1, 4), part(1, 4))
	c.Ports = slices.Repeat([]api.Port{sample(0, 1)}, 9)
	wantWrong(t, c)
}

// P12.1 to P12.3: a bool too few, one too many, none, and many; ahead of a partition that there is not, of numbers that may not be, and of the test.
func TestNotAsManyBools(t *testing.T) {
	for _, p := range []api.Part{part(1, 4), part(1, 1), late(4, 8)} {
		for many := 1; many <= api.MaxParts; many++ {
			c := config(slices.Repeat([]api.Part{p}, many)...)
			for _, bools := range []int{0, many - 1, many + 1, many + 2, 100, 65536} {
				for _, is := range []bool{false, true} {
					in := slices.Repeat([]bool{is}, bools)
					wantTest(t, c, in, 0, 0, api.ErrArg)
					for _, part := range []int{math.MinInt, -1, 0, many - 1, many, bools - 1, bools, math.MaxInt} {
						wantJoin(t, c, in, part, api.ErrArg)
						wantChange(t, c, in, part, 8, 1, api.ErrArg)
						wantChange(t, c, in, part, 8, 9, api.ErrArg)
						wantChange(t, c, in, part, 65, 0, api.ErrArg)
					}
				}
			}
			wantTest(t, c, nil, 0, 0, api.ErrArg)
		}
	}
}

// P12.2, P12.3: partitions that there are not, ahead of numbers that may not be, and of the test.
func TestNowhere(t *testing.T) {
	for _, p := range []api.Part{part(1, 4), part(1, 1), late(4, 8)} {
		for many := 1; many <= api.MaxParts; many++ {
			c := config(slices.Repeat([]api.Part{p}, many)...)
			for _, in := range everyWho(many) {
				for _, part := range append([]int{many, many + 1, 100}, far...) {
					wantJoin(t, c, in, part, api.ErrRange)
					wantChange(t, c, in, part, 8, 1, api.ErrRange)
					wantChange(t, c, in, part, 8, 9, api.ErrRange)
					wantChange(t, c, in, part, 65, 0, api.ErrRange)
				}
			}
		}
	}
}

// P12.3: periods and budgets that may not be, whoever is in, and whether those pass or not: ahead of the test.
func TestNoServer(t *testing.T) {
	for _, c := range []api.Config{pqr(), config(part(1, 1), late(4, 8), part(1, 1))} {
		for _, in := range everyWho(3) {
			for part := range 3 {
				for _, n := range append([]int{0, 65, 66}, far...) {
					wantChange(t, c, in, part, n, 1, api.ErrConf)
					wantChange(t, c, in, part, n, n, api.ErrConf)
					wantChange(t, c, in, part, 64, n, api.ErrConf)
					wantChange(t, c, in, part, 1, n, api.ErrConf)
				}
				for period := 1; period <= api.MaxTime; period++ {
					wantChange(t, c, in, part, period, 0, api.ErrConf)
					wantChange(t, c, in, part, period, -1, api.ErrConf)
					wantChange(t, c, in, part, period, period+1, api.ErrConf)
				}
			}
		}
	}
}
