package ticks_test

import (
	"fmt"
	"math"
	"math/rand"
	"slices"
	"testing"

	"escapement/api"
	"escapement/ticks"
)

const most = api.MaxTick

// noTicks are numbers that are none.
var noTicks = []int{-1, -2, -most, math.MinInt, math.MinInt + 1, most + 1, most + 2, 2 * most, math.MaxInt}

// some are ticks at the edges, and between them.
var some = []int{0, 1, 2, 3, 4, 5, 6, 7, 12, 18, 60, 64, 4096, 1<<20 - 1, 1 << 20, 1<<20 + 1, 1<<39 - 1, 1 << 39, 1<<39 + 1, most - 1, most}

// want fails the test unless an answer is the one that is wanted.
func want(t *testing.T, call string, n int, e api.Errno, wantN int, wantE api.Errno) {
	t.Helper()
	if n != wantN || e != wantE {
		t.Errorf("%s: %d, error %d; want %d, error %d", call, n, e, wantN, wantE)
	}
}

type two func(a, b int) (int, api.Errno)

// ofTwo are the calls that reckon with two ticks.
func ofTwo() map[string]two {
	return map[string]two{
		"Add": ticks.Add, "Sub": ticks.Sub, "Mul": ticks.Mul, "Div": ticks.Div, "Gcd": ticks.Gcd,
		"Lcm": func(a, b int) (int, api.Errno) { return ticks.Lcm(most, a, b) },
		"Sum": func(a, b int) (int, api.Errno) { return ticks.Sum(a, b) },
	}
}

// P1.1
func TestTwo(t *testing.T) {
	rows := []struct {
		name string
		a, b int
		n    int
		e    api.Errno
	}{
		{"Add", 0, 0, 0, api.OK},
		{"Add", 2, 3, 5, api.OK},
		{"Add", most, 0, most, api.OK},
		{"Add", 0, most, most, api.OK},
		{"Add", most - 1, 1, most, api.OK},
		{"Add", 1 << 39, 1 << 39, most, api.OK},
		{"Add", most, 1, 0, api.ErrOver},
		{"Add", 1, most, 0, api.ErrOver},
		{"Add", most, most, 0, api.ErrOver},
		{"Add", most + 1, 0, 0, api.ErrArg},
		{"Add", -1, 1, 0, api.ErrArg},
		{"Add", most + 1, -1, 0, api.ErrArg},

		{"Sub", 0, 0, 0, api.OK},
		{"Sub", 7, 3, 4, api.OK},
		{"Sub", 4, 4, 0, api.OK},
		{"Sub", most, 0, most, api.OK},
		{"Sub", most, most, 0, api.OK},
		{"Sub", most, 1, most - 1, api.OK},
		{"Sub", 3, 4, 0, api.ErrArg},
		{"Sub", 0, most, 0, api.ErrArg},
		{"Sub", 3, -4, 0, api.ErrArg},
		{"Sub", -3, -4, 0, api.ErrArg},
		{"Sub", most + 2, most + 1, 0, api.ErrArg},

		{"Mul", 0, 0, 0, api.OK},
		{"Mul", 0, most, 0, api.OK},
		{"Mul", most, 0, 0, api.OK},
		{"Mul", 6, 7, 42, api.OK},
		{"Mul", most, 1, most, api.OK},
		{"Mul", 1, most, most, api.OK},
		{"Mul", 1 << 20, 1 << 20, most, api.OK},
		{"Mul", 1<<20 + 1, 1 << 20, 0, api.ErrOver},
		{"Mul", 1 << 20, 1<<20 + 1, 0, api.ErrOver},
		{"Mul", 1<<20 + 1, 1<<20 - 1, most - 1, api.OK},
		{"Mul", most, 2, 0, api.ErrOver},
		{"Mul", 3, 1 << 39, 0, api.ErrOver},
		{"Mul", 1 << 32, 1 << 32, 0, api.ErrOver}, // these two would wrap round to 0
		{"Mul", most, most, 0, api.ErrOver},
		{"Mul", most + 1, 0, 0, api.ErrArg},
		{"Mul", 0, -1, 0, api.ErrArg},
		{"Mul", -1, -1, 0, api.ErrArg},

		{"Div", 7, 2, 3, api.OK},
		{"Div", 6, 2, 3, api.OK},
		{"Div", 1, 2, 0, api.OK},
		{"Div", 0, 5, 0, api.OK},
		{"Div", most, 1, most, api.OK},
		{"Div", most, most, 1, api.OK},
		{"Div", most - 1, most, 0, api.OK},
		{"Div", most, 3, 366503875925, api.OK},
		{"Div", 7, 0, 0, api.ErrArg},
		{"Div", 0, 0, 0, api.ErrArg},
		{"Div", -7, 2, 0, api.ErrArg},
		{"Div", 7, -2, 0, api.ErrArg},
		{"Div", math.MinInt, -1, 0, api.ErrArg},
		{"Div", most + 1, 1, 0, api.ErrArg},
	}
	calls := ofTwo()
	for _, r := range rows {
		n, e := calls[r.name](r.a, r.b)
		want(t, fmt.Sprintf("%s(%d, %d)", r.name, r.a, r.b), n, e, r.n, r.e)
	}
}

// P1.1, P1.2: each one tells what is no tick, wherever it stands.
func TestNoTicks(t *testing.T) {
	for name, call := range ofTwo() {
		for _, bad := range noTicks {
			for _, other := range slices.Concat(some, noTicks) {
				n, e := call(bad, other)
				want(t, fmt.Sprintf("%s(%d, %d)", name, bad, other), n, e, 0, api.ErrArg)
				n, e = call(other, bad)
				want(t, fmt.Sprintf("%s(%d, %d)", name, other, bad), n, e, 0, api.ErrArg)
			}
		}
	}
}

// P1.2
func TestGcd(t *testing.T) {
	for _, r := range [][3]int{
		{12, 18, 6}, {18, 12, 6}, {0, 5, 5}, {5, 0, 5}, {0, 0, 0}, {1, most, 1}, {7, 7, 7}, {4, 12, 4},
		{most, most, most}, {most, 0, most}, {0, most, most}, {most, 1 << 39, 1 << 39}, {most, most - 1, 1},
		{433494437, 267914296, 1}, {most, 3, 1}, {3 << 38, 5 << 37, 1 << 37},
	} {
		n, e := ticks.Gcd(r[0], r[1])
		want(t, fmt.Sprintf("Gcd(%d, %d)", r[0], r[1]), n, e, r[2], api.OK)
	}
}

// P1.2
func TestLcm(t *testing.T) {
	for _, r := range []struct {
		limit int
		l     []int
		n     int
		e     api.Errno
	}{
		{100, []int{4, 6, 10}, 60, api.OK},
		{60, []int{4, 6, 10}, 60, api.OK},
		{59, []int{4, 6, 10}, 0, api.ErrOver},
		{100, []int{10, 6, 4}, 60, api.OK},
		{100, []int{7}, 7, api.OK},
		{7, []int{7, 7, 7, 1}, 7, api.OK},
		{6, []int{7}, 0, api.ErrOver},
		{1, nil, 1, api.OK},
		{1, []int{}, 1, api.OK},
		{most, nil, 1, api.OK},
		{0, nil, 0, api.ErrOver},
		{0, []int{1}, 0, api.ErrOver},
		{1, []int{1, 1}, 1, api.OK},
		{most, []int{most}, most, api.OK},
		{most, []int{most, 1 << 39, 1 << 20}, most, api.OK},
		{most - 1, []int{most}, 0, api.ErrOver},
		{most, []int{most, 3}, 0, api.ErrOver},
		{most, []int{most, most - 1}, 0, api.ErrOver},
		{most, []int{most - 1, 1 << 39}, 0, api.ErrOver},
		{most, []int{1<<20 + 1, 1<<20 - 1}, most - 1, api.OK},
		{4096, []int{64, 63, 61, 59}, 0, api.ErrOver},
		{most, []int{64, 63, 61, 59}, 14511168, api.OK},
		// A product that wraps round to below 0 is still beyond the horizon.
		{most, []int{1 << 32, 1<<32 - 1}, 0, api.ErrOver},
		// What is no tick, or 0, is told ahead of what is beyond the limit.
		{5, []int{7, 0}, 0, api.ErrArg},
		{most, []int{most, 3, 0}, 0, api.ErrArg},
		{most, []int{most, 3, -1}, 0, api.ErrArg},
		{most, []int{most, 3, most + 1}, 0, api.ErrArg},
		{100, []int{0}, 0, api.ErrArg},
		{100, []int{0, 4}, 0, api.ErrArg},
		{0, []int{0}, 0, api.ErrArg},
		{-1, nil, 0, api.ErrArg},
		{-1, []int{4}, 0, api.ErrArg},
		{most + 1, nil, 0, api.ErrArg},
		{most + 1, []int{4, 6}, 0, api.ErrArg},
		{math.MaxInt, []int{4, 6}, 0, api.ErrArg},
		{math.MinInt, []int{4, 6}, 0, api.ErrArg},
	} {
		n, e := ticks.Lcm(r.limit, r.l...)
		want(t, fmt.Sprintf("Lcm(%d, %v)", r.limit, r.l), n, e, r.n, r.e)
	}
}

// P1.2: the least tick of all that each one divides, found one by one.
func TestLcmIsLeast(t *testing.T) {
	for a := 1; a <= 14; a++ {
		for b := 1; b <= 14; b++ {
			for c := 1; c <= 14; c++ {
				least := 1
				for least%a != 0 || least%b != 0 || least%c != 0 {
					least++
				}
				call := fmt.Sprintf("Lcm(.., %d, %d, %d)", a, b, c)
				n, e := ticks.Lcm(least, a, b, c)
				want(t, call, n, e, least, api.OK)
				n, e = ticks.Lcm(least-1, a, b, c)
				want(t, call, n, e, 0, api.ErrOver)
			}
		}
	}
}

// P1.2
func TestSum(t *testing.T) {
	for _, r := range []struct {
		l []int
		n int
		e api.Errno
	}{
		{nil, 0, api.OK},
		{[]int{}, 0, api.OK},
		{[]int{0}, 0, api.OK},
		{[]int{9}, 9, api.OK},
		{[]int{1, 2, 3}, 6, api.OK},
		{[]int{most}, most, api.OK},
		{[]int{0, most, 0}, most, api.OK},
		{[]int{most - 2, 1, 1}, most, api.OK},
		{[]int{most - 2, 1, 1, 1}, 0, api.ErrOver},
		{[]int{most, 0, 1}, 0, api.ErrOver},
		{[]int{most, most, most}, 0, api.ErrOver},
		{[]int{-1}, 0, api.ErrArg},
		{[]int{1, -1}, 0, api.ErrArg},
		{[]int{most + 1}, 0, api.ErrArg},
		{[]int{math.MaxInt, math.MaxInt, 2}, 0, api.ErrArg},
		// What is no tick is told ahead of what is beyond the horizon.
		{[]int{most, 1, -1}, 0, api.ErrArg},
		{[]int{most, 1, most + 1}, 0, api.ErrArg},
	} {
		n, e := ticks.Sum(r.l...)
		want(t, fmt.Sprintf("Sum(%v)", r.l), n, e, r.n, r.e)
	}
}

// P1.2: so many that their sum would wrap round to below 0, if it was not looked at each time.
func TestSumOfMany(t *testing.T) {
	n, e := ticks.Sum(slices.Repeat([]int{most}, 1<<23)...)
	want(t, "Sum of 2^23 times MaxTick", n, e, 0, api.ErrOver)
	n, e = ticks.Sum(slices.Repeat([]int{1 << 20}, 1<<20)...)
	want(t, "Sum of 2^20 times 2^20", n, e, most, api.OK)
}

// P1.3
func TestListsAreOnlyRead(t *testing.T) {
	for _, l := range [][]int{{4, 6, 10, 77, 88}, {most, 3, 1, 77, 88}, {4, -1, 0, 77, 88}, {0, 9, 4, 77, 88}} {
		was := slices.Clone(l)
		ticks.Sum(l[:3]...)
		ticks.Lcm(100, l[:3]...)
		if !slices.Equal(l, was) {
			t.Errorf("a list %v is %v behind the calls", was, l)
		}
	}
}

// P1.3: with an error the number is 0.
func TestErrorsHaveNoNumber(t *testing.T) {
	for name, call := range ofTwo() {
		for _, a := range slices.Concat(some, noTicks) {
			for _, b := range slices.Concat(some, noTicks) {
				if n, e := call(a, b); e != api.OK && n != 0 {
					t.Errorf("%s(%d, %d): %d beside the error %d", name, a, b, n, e)
				}
			}
		}
	}
}

// pairs does something with pairs of ticks: those of some, and others from all over, the same ones each time.
func pairs(do func(a, b int)) {
	for _, a := range some {
		for _, b := range some {
			do(a, b)
		}
	}
	r := rand.New(rand.NewSource(1))
	for range 20000 {
		do(r.Intn(most+1)>>r.Intn(41), r.Intn(most+1)>>r.Intn(41))
	}
}

// P1.4: what is added can be taken off again.
func TestAddThenSub(t *testing.T) {
	pairs(func(a, b int) {
		sum, e := ticks.Add(a, b)
		if a+b > most {
			want(t, fmt.Sprintf("Add(%d, %d)", a, b), sum, e, 0, api.ErrOver)
			return
		}
		n, e := ticks.Sub(sum, b)
		want(t, fmt.Sprintf("Sub(%d, %d)", sum, b), n, e, a, api.OK)
	})
}

// P1.4: a product, divided, is what it was made of.
func TestMulThenDiv(t *testing.T) {
	pairs(func(a, b int) {
		product, e := ticks.Mul(a, b)
		if e != api.OK || b == 0 {
			return
		}
		n, e := ticks.Div(product, b)
		want(t, fmt.Sprintf("Div(%d, %d)", product, b), n, e, a, api.OK)
	})
}

// P1.4: a division is the greatest number whose product is at most what was divided.
func TestDivThenMul(t *testing.T) {
	pairs(func(a, b int) {
		if b == 0 {
			return
		}
		n, e := ticks.Div(a, b)
		if e != api.OK {
			t.Fatalf("Div(%d, %d): error %d", a, b, e)
		}
		if p, e := ticks.Mul(n, b); e != api.OK || p > a {
			t.Errorf("Div(%d, %d) = %d, times %d: %d, error %d", a, b, n, b, p, e)
		}
		if p, e := ticks.Mul(n+1, b); e == api.OK && p <= a {
			t.Errorf("Div(%d, %d) = %d, but one more times %d is %d", a, b, n, b, p)
		}
	})
}

// P1.5: the Gcd divides both, and each one that does divides it.
func TestGcdOfSmall(t *testing.T) {
	for a := range 70 {
		for b := range 70 {
			g, e := ticks.Gcd(a, b)
			if a == 0 || b == 0 {
				want(t, fmt.Sprintf("Gcd(%d, %d)", a, b), g, e, a+b, api.OK)
				continue
			}
			for d := 1; d <= 70; d++ {
				if both := a%d == 0 && b%d == 0; both != (g%d == 0) {
					t.Errorf("Gcd(%d, %d) = %d, and %d", a, b, g, d)
				}
			}
		}
	}
}

// P1.5: Gcd and Lcm of two, multiplied, are their product.
func TestGcdAndLcm(t *testing.T) {
	pairs(func(a, b int) {
		if a == 0 || b == 0 {
			return
		}
		g, e := ticks.Gcd(a, b)
		if e != api.OK || a%g != 0 || b%g != 0 {
			t.Fatalf("Gcd(%d, %d) = %d, error %d", a, b, g, e)
		}
		call := fmt.Sprintf("Lcm(MaxTick, %d, %d)", a, b)
		n, e := ticks.Lcm(most, a, b)
		if a/g > most/b {
			want(t, call, n, e, 0, api.ErrOver)
			return
		}
		want(t, call, n, e, a/g*b, api.OK)
	})
}
