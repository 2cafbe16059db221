package ticks

import "escapement/api"

// counter is what several ticks have come to so far.
type counter struct {
	count int
}

// add lets the count be greater by a tick.
func (c *counter) add(tick int) api.Errno {
	return c.become(Add(c.count, tick))
}

// multiply lets the count, above 0, be the least multiple of itself that a tick above 0 divides.
func (c *counter) multiply(tick int) api.Errno {
	// Gcd and Div have no error to tell here: both numbers are ticks above 0.
	common, _ := Gcd(c.count, tick)
	times, _ := Div(tick, common)
	return c.become(Mul(c.count, times))
}

// become lets the count be n, unless there is an error.
func (c *counter) become(n int, e api.Errno) api.Errno {
	if e == api.OK {
		c.count = n
	}
	return e
}

// reckon does a step with each tick, one behind the other, till one answers an error.
func reckon(step func(tick int) api.Errno, l ...int) api.Errno {
	for _, tick := range l {
		if e := step(tick); e != api.OK {
			return e
		}
	}
	return api.OK
}
