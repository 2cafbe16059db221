package share

import "escapement/ticks"

// fraction is top by below, in lowest terms: two of them are the same number just if they are the same struct.
type fraction[N ~int] struct {
	top, below N
}

// lowest is top by below, which is above 0.
func lowest[N ~int](top, below N) fraction[N] {
	// There is no error to tell: four servers' tops and belows, multiplied, stay far below the horizon.
	common, _ := ticks.Gcd(int(top), int(below))
	return fraction[N]{top / N(common), below / N(common)}
}

// sum is both together.
func sum[N ~int](a, b fraction[N]) fraction[N] {
	return lowest(a.top*b.below+b.top*a.below, a.below*b.below)
}

// greater is the one of both that is more.
func greater[N ~int](a, b fraction[N]) fraction[N] {
	if a.top*b.below > b.top*a.below {
		return a
	}
	return b
}
