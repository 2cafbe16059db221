// Package ticks is layer 1: counts of ticks, checked: see shared/doc/01-ticks.md.
package ticks

import (
	"slices"

	"escapement/api"
)

// Add is the sum of two ticks.
func Add(a, b int) (int, api.Errno) {
	if !areTicks(a, b) {
		return 0, api.ErrArg
	}
	if a > api.MaxTick-b {
		return 0, api.ErrOver
	}
	return a + b, api.OK
}

// Sub is a less b.
func Sub(a, b int) (int, api.Errno) {
	if !areTicks(a, b) || b > a {
		return 0, api.ErrArg
	}
	return a - b, api.OK
}

// Mul is the product of two ticks.
func Mul(a, b int) (int, api.Errno) {
	if !areTicks(a, b) {
		return 0, api.ErrArg
	}
	// The product itself may wrap round; the quotient can't.
	if b != 0 && a > api.MaxTick/b {
		return 0, api.ErrOver
	}
	return a * b, api.OK
}

// Div is a by b, rounded down.
func Div(a, b int) (int, api.Errno) {
	if !areTicks(a, b) || b == 0 {
		return 0, api.ErrArg
	}
	return a / b, api.OK
}

// Gcd is the greatest tick that divides both; the other one, if one is 0.
func Gcd(a, b int) (int, api.Errno) {
	if !areTicks(a, b) {
		return 0, api.ErrArg
	}
	for b != 0 {
		a, b = b, a%b
	}
	return a, api.OK
}

// Lcm is the least tick above 0 that each of l divides, if it is at most limit.
func Lcm(limit int, l ...int) (int, api.Errno) {
	if !areTicks(limit) || !areTicks(l...) || slices.Contains(l, 0) {
		return 0, api.ErrArg
	}
	c := counter{count: 1}
	if e := reckon(c.multiply, l...); e != api.OK {
		return 0, e
	}
	if c.count > limit {
		return 0, api.ErrOver
	}
	return c.count, api.OK
}

// Sum is all of l together.
func Sum(l ...int) (int, api.Errno) {
	// All are looked at first: what is no tick is told ahead of what is beyond the horizon.
	if !areTicks(l...) {
		return 0, api.ErrArg
	}
	c := counter{}
	if e := reckon(c.add, l...); e != api.OK {
		return 0, e
	}
	return c.count, api.OK
}

// areTicks tells whether all of l are from 0 to MaxTick.
func areTicks(l ...int) bool {
	for _, n := range l {
		if n < 0 || n > api.MaxTick {
			return false
		}
	}
	return true
}
