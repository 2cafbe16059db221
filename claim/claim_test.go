package claim_test

import (
	"slices"
	"testing"

	"escapement/api"
	"escapement/claim"
)

// wantErrno fails the test unless a call answers that error.
func wantErrno(t *testing.T, call string, got, want api.Errno) {
	t.Helper()
	if got != want {
		t.Errorf("%s: %d, not %d", call, got, want)
	}
}

// wantAsk fails the test unless Ask answers that.
func wantAsk(t *testing.T, c *claim.Claim, part, resource int, want bool, wantE api.Errno) {
	t.Helper()
	if mine, e := c.Ask(part, resource); mine != want || e != wantE {
		t.Errorf("Ask(%d, %d): %t, %d, not %t, %d", part, resource, mine, e, want, wantE)
	}
}

// wantLine fails the test unless a resource's line is that, and each of it stands in that line.
func wantLine(t *testing.T, c *claim.Claim, resource int, want ...int) {
	t.Helper()
	if got := c.Line(resource); !slices.Equal(got, want) {
		t.Errorf("Line(%d): %v, not %v", resource, got, want)
	}
	for _, part := range want {
		wantOne(t, "In", c.In, part, resource, true)
	}
}

// wantOne fails the test unless Holder, In or Drop answers that.
func wantOne(t *testing.T, what string, asked func(int) (int, bool), n, want int, wantIs bool) {
	t.Helper()
	if got, is := asked(n); got != want || is != wantIs {
		t.Errorf("%s(%d): %d, %t, not %d, %t", what, n, got, is, want, wantIs)
	}
}

// lined is a claim in which partitions stand in a resource's line.
func lined(t *testing.T, resource int, parts ...int) *claim.Claim {
	t.Helper()
	c := claim.New()
	for i, part := range parts {
		wantAsk(t, c, part, resource, i == 0, api.OK)
	}
	wantLine(t, c, resource, parts...)
	return c
}

// P21.2 to P21.4: the chapter's examples.
func TestExamples(t *testing.T) {
	c := claim.New()
	wantAsk(t, c, 0, 1, true, api.OK)
	wantAsk(t, c, 2, 1, false, api.OK)
	wantAsk(t, c, 0, 1, true, api.OK)
	wantAsk(t, c, 0, 2, false, api.ErrState)

	wantErrno(t, "Hold of the second one", c.Hold(2, 1), api.ErrState)
	wantErrno(t, "Hold", c.Hold(0, 1), api.OK)
	wantErrno(t, "Hold again", c.Hold(0, 1), api.ErrHeld)
	wantAsk(t, c, 0, 1, false, api.ErrHeld)

	wantLine(t, c, 1, 0, 2)
	wantOne(t, "Holder", c.Holder, 1, 0, true)
	wantErrno(t, "Give of the second one", c.Give(2, 1), api.ErrFree)
	wantErrno(t, "Give", c.Give(0, 1), api.OK)
	wantLine(t, c, 1, 2)
	wantOne(t, "Holder", c.Holder, 1, 0, false)

	wantOne(t, "Drop", c.Drop, 2, 1, true)
	wantOne(t, "In", c.In, 2, 0, false)
	wantOne(t, "Drop again", c.Drop, 2, 0, false)
}

// P21.1: all lines are empty, and nothing is held; of each new claim, whatever becomes of another one.
func TestNew(t *testing.T) {
	c := claim.New()
	if c == nil || stateOf(c) != (state{}) {
		t.Fatalf("New(): %v", c)
	}
	wantAsk(t, c, 3, 4, true, api.OK)
	wantErrno(t, "Hold", c.Hold(3, 4), api.OK)
	other := claim.New()
	if stateOf(other) != (state{}) {
		t.Errorf("New() behind another one: %v", stateOf(other))
	}
	wantAsk(t, other, 3, 1, true, api.OK)
	wantLine(t, c, 4, 3)
	wantOne(t, "Holder", c.Holder, 4, 3, true)
	wantOne(t, "Holder", other.Holder, 4, 0, false)
}

// P21.2 to P21.4: the ends of what there is: each partition, with each resource, may stand, hold and give.
func TestEach(t *testing.T) {
	for part := range parts {
		for resource := 1; resource <= resources; resource++ {
			c := lined(t, resource, part)
			wantErrno(t, "Hold", c.Hold(part, resource), api.OK)
			wantOne(t, "Holder", c.Holder, resource, part, true)
			wantLine(t, c, resource, part)
			wantErrno(t, "Give", c.Give(part, resource), api.OK)
			if stateOf(c) != (state{}) {
				t.Errorf("behind Give(%d, %d): %v", part, resource, stateOf(c))
			}
		}
	}
}

// P21.2: who asks again stands where it does: it is told whether it is the first one, and nobody comes ahead or behind by it.
func TestAskAgain(t *testing.T) {
	c := lined(t, 2, 3, 1, 0, 2)
	for range 3 {
		for i, part := range []int{3, 1, 0, 2} {
			wantAsk(t, c, part, 2, i == 0, api.OK)
			wantLine(t, c, 2, 3, 1, 0, 2)
		}
	}
	wantOne(t, "Holder", c.Holder, 2, 0, false)
	wantErrno(t, "Hold", c.Hold(3, 2), api.OK)
	wantAsk(t, c, 3, 2, false, api.ErrHeld)
	wantAsk(t, c, 1, 2, false, api.OK)
	wantErrno(t, "Give", c.Give(3, 2), api.OK)
	wantAsk(t, c, 1, 2, true, api.OK)
	wantAsk(t, c, 0, 2, false, api.OK)
}

// P21.2: who stands in another line, first or not, or holds another resource, may not ask, and stays where it stands.
func TestAskElsewhere(t *testing.T) {
	c := lined(t, 3, 1, 2)
	for _, resource := range []int{1, 2, 4} {
		wantAsk(t, c, 1, resource, false, api.ErrState)
		wantAsk(t, c, 2, resource, false, api.ErrState)
	}
	wantErrno(t, "Hold", c.Hold(1, 3), api.OK)
	for _, resource := range []int{1, 2, 4} {
		wantAsk(t, c, 1, resource, false, api.ErrState)
		wantAsk(t, c, 2, resource, false, api.ErrState)
		wantLine(t, c, resource)
	}
	wantLine(t, c, 3, 1, 2)
	wantOne(t, "Holder", c.Holder, 3, 1, true)

	// Behind that it may ask for any.
	wantErrno(t, "Give", c.Give(1, 3), api.OK)
	wantAsk(t, c, 1, 4, true, api.OK)
	wantOne(t, "Drop", c.Drop, 2, 3, true)
	wantAsk(t, c, 2, 4, false, api.OK)
	wantLine(t, c, 4, 1, 2)
}

// P21.2 to P21.4: all four partitions in one line, in each order in which they can come.
func TestAllInOneLine(t *testing.T) {
	orders := 0
	for _, order := range everyOrder([]int{0, 1, 2, 3}) {
		orders++
		resource := 1 + orders%resources
		c := lined(t, resource, order...)
		for i, part := range order {
			for _, later := range order[i+1:] {
				wantErrno(t, "Hold of a later one", c.Hold(later, resource), api.ErrState)
				wantErrno(t, "Give of a later one", c.Give(later, resource), api.ErrFree)
			}
			wantErrno(t, "Give of the first one", c.Give(part, resource), api.ErrFree)
			wantErrno(t, "Hold", c.Hold(part, resource), api.OK)
			wantOne(t, "Holder", c.Holder, resource, part, true)
			wantErrno(t, "Give", c.Give(part, resource), api.OK)
			wantOne(t, "Holder", c.Holder, resource, 0, false)
			wantOne(t, "In", c.In, part, 0, false)
			wantLine(t, c, resource, order[i+1:]...)
		}
	}
	if orders != 24 {
		t.Errorf("%d orders", orders)
	}
}

// everyOrder is all orders of a list.
func everyOrder(l []int) [][]int {
	if len(l) == 0 {
		return [][]int{nil}
	}
	var orders [][]int
	for i := range l {
		rest := slices.Delete(slices.Clone(l), i, i+1)
		for _, order := range everyOrder(rest) {
			orders = append(orders, append([]int{l[i]}, order...))
		}
	}
	return orders
}

// P21.2 to P21.4: one partition in each line: each holds its own, and none any other.
func TestOneInEach(t *testing.T) {
	for _, order := range everyOrder([]int{1, 2, 3, 4}) {
		c := claim.New()
		for part, resource := range order {
			wantAsk(t, c, part, resource, true, api.OK)
		}
		for part, resource := range order {
			wantErrno(t, "Hold", c.Hold(part, resource), api.OK)
		}
		for part, resource := range order {
			wantLine(t, c, resource, part)
			wantOne(t, "Holder", c.Holder, resource, part, true)
			for _, other := range order {
				if other != resource {
					wantAsk(t, c, part, other, false, api.ErrState)
					wantErrno(t, "Hold", c.Hold(part, other), api.ErrState)
					wantErrno(t, "Give", c.Give(part, other), api.ErrFree)
				}
			}
		}
		wantOne(t, "Drop", c.Drop, 2, order[2], true)
		wantErrno(t, "Give", c.Give(0, order[0]), api.OK)
		wantOne(t, "Holder", c.Holder, order[0], 0, false)
		wantOne(t, "Holder", c.Holder, order[1], 1, true)
		wantOne(t, "Holder", c.Holder, order[2], 0, false)
		wantOne(t, "Holder", c.Holder, order[3], 3, true)
	}
}

// P21.2: nobody holds but the first one: neither the second one, nor who stands in no line, or in an other, nor anybody, if the line is empty; and the first one once.
func TestHold(t *testing.T) {
	c := lined(t, 1, 2, 0)
	wantAsk(t, c, 1, 4, true, api.OK)
	for range 2 {
		wantErrno(t, "Hold of the second one", c.Hold(0, 1), api.ErrState)
		wantErrno(t, "Hold of one in no line", c.Hold(3, 1), api.ErrState)
		wantErrno(t, "Hold of one in another line", c.Hold(1, 1), api.ErrState)
		wantErrno(t, "Hold of the first one in another line", c.Hold(2, 4), api.ErrState)
		for part := range parts {
			wantErrno(t, "Hold with an empty line", c.Hold(part, 2), api.ErrState)
			wantErrno(t, "Hold with an empty line", c.Hold(part, 3), api.ErrState)
		}
	}
	for resource := 1; resource <= resources; resource++ {
		wantOne(t, "Holder", c.Holder, resource, 0, false)
	}
	wantErrno(t, "Hold", c.Hold(2, 1), api.OK)
	wantErrno(t, "Hold twice", c.Hold(2, 1), api.ErrHeld)
	wantErrno(t, "Hold of the second one", c.Hold(0, 1), api.ErrState)
	wantErrno(t, "Hold of one in no line", c.Hold(3, 1), api.ErrState)
	wantErrno(t, "Hold of another by who holds", c.Hold(2, 4), api.ErrState)
	wantOne(t, "Holder", c.Holder, 1, 2, true)
	wantOne(t, "Holder", c.Holder, 4, 0, false)
	wantErrno(t, "Hold", c.Hold(1, 4), api.OK)
	wantLine(t, c, 1, 2, 0)
	wantLine(t, c, 4, 1)
}

// P21.3: nobody gives but who holds, what it holds, once.
func TestGive(t *testing.T) {
	c := lined(t, 1, 2, 0)
	wantErrno(t, "Give of the first one that doesn't hold", c.Give(2, 1), api.ErrFree)
	wantErrno(t, "Give of the second one", c.Give(0, 1), api.ErrFree)
	wantErrno(t, "Give of one in no line", c.Give(3, 1), api.ErrFree)
	wantErrno(t, "Give with an empty line", c.Give(3, 2), api.ErrFree)
	wantLine(t, c, 1, 2, 0)
	wantErrno(t, "Hold", c.Hold(2, 1), api.OK)
	wantErrno(t, "Give of another resource", c.Give(2, 2), api.ErrFree)
	wantErrno(t, "Give of the second one", c.Give(0, 1), api.ErrFree)
	wantOne(t, "Holder", c.Holder, 1, 2, true)
	wantErrno(t, "Give", c.Give(2, 1), api.OK)
	wantErrno(t, "Give twice", c.Give(2, 1), api.ErrFree)
	wantLine(t, c, 1, 0)
	wantOne(t, "Holder", c.Holder, 1, 0, false)
	wantOne(t, "In", c.In, 2, 0, false)
	// What was given back is had by the next one as by the first.
	wantErrno(t, "Hold", c.Hold(0, 1), api.OK)
	wantErrno(t, "Give", c.Give(0, 1), api.OK)
	wantLine(t, c, 1)
}

// P21.3: who is dropped stands in no line, and holds nothing, wherever it stood; the others stand as they did.
func TestDrop(t *testing.T) {
	for i, rest := range [][]int{{0, 3, 1}, {2, 3, 1}, {2, 0, 1}, {2, 0, 3}} {
		for _, held := range []bool{false, true} {
			c, part := lined(t, 3, 2, 0, 3, 1), []int{2, 0, 3, 1}[i]
			if held {
				wantErrno(t, "Hold", c.Hold(2, 3), api.OK)
			}
			wantOne(t, "Drop", c.Drop, part, 3, true)
			wantLine(t, c, 3, rest...)
			wantOne(t, "In", c.In, part, 0, false)
			if held && i > 0 {
				wantOne(t, "Holder", c.Holder, 3, 2, true)
			} else {
				wantOne(t, "Holder", c.Holder, 3, 0, false)
				wantErrno(t, "Hold of the first one", c.Hold(rest[0], 3), api.OK)
			}
			wantOne(t, "Drop of one in no line", c.Drop, part, 0, false)
			wantErrno(t, "Give of who was dropped", c.Give(part, 3), api.ErrFree)
			wantLine(t, c, 3, rest...)
		}
	}
}

// P21.3: of who stands in no line, or of a partition that there is not, nothing is dropped.
func TestDropNobody(t *testing.T) {
	c := lined(t, 1, 0, 3)
	wantErrno(t, "Hold", c.Hold(0, 1), api.OK)
	before := stateOf(c)
	for _, n := range numbers {
		if n != 0 && n != 3 {
			wantOne(t, "Drop", c.Drop, n, 0, false)
			if stateOf(c) != before {
				t.Errorf("behind Drop(%d): %v, not %v", n, stateOf(c), before)
			}
		}
	}
}

// P21.2, P21.3: who asks again behind a Give, or a Drop, stands behind all others.
func TestBehindAll(t *testing.T) {
	c := lined(t, 4, 0, 1, 2, 3)
	wantErrno(t, "Hold", c.Hold(0, 4), api.OK)
	wantErrno(t, "Give", c.Give(0, 4), api.OK)
	wantAsk(t, c, 0, 4, false, api.OK)
	wantLine(t, c, 4, 1, 2, 3, 0)
	for _, x := range []struct {
		part int
		line []int
	}{{2, []int{1, 3, 0, 2}}, {1, []int{3, 0, 2, 1}}, {1, []int{3, 0, 2, 1}}} {
		wantOne(t, "Drop", c.Drop, x.part, 4, true)
		wantAsk(t, c, x.part, 4, false, api.OK)
		wantLine(t, c, 4, x.line...)
	}
	wantErrno(t, "Hold", c.Hold(3, 4), api.OK)
	wantOne(t, "Drop of who holds", c.Drop, 3, 4, true)
	wantOne(t, "Holder", c.Holder, 4, 0, false)
	wantAsk(t, c, 3, 4, false, api.OK)
	wantLine(t, c, 4, 0, 2, 1, 3)

	// Of a line of one, behind nobody.
	c = lined(t, 2, 1)
	wantErrno(t, "Hold", c.Hold(1, 2), api.OK)
	wantErrno(t, "Give", c.Give(1, 2), api.OK)
	wantAsk(t, c, 1, 2, true, api.OK)
	wantOne(t, "Holder", c.Holder, 2, 0, false)
	wantOne(t, "Drop", c.Drop, 1, 2, true)
	wantAsk(t, c, 1, 2, true, api.OK)
}

// P21.5: a line that was answered is its own: what is written into it, or behind it, changes nothing, and it stays as it was while the claim goes on.
func TestNewMemory(t *testing.T) {
	for _, order := range everyOrder([]int{0, 1, 2, 3}) {
		for length := 1; length <= parts; length++ {
			c := lined(t, 1, order[:length]...)
			before := stateOf(c)
			l, kept := c.Line(1), c.Line(1)
			l = l[:cap(l)]
			for i := range l {
				l[i] = 7
			}
			if stateOf(c) != before || !slices.Equal(kept, order[:length]) {
				t.Fatalf("behind writing: %v, not %v; the other line: %v", stateOf(c), before, kept)
			}

			wantErrno(t, "Hold", c.Hold(order[0], 1), api.OK)
			wantErrno(t, "Give", c.Give(order[0], 1), api.OK)
			for _, part := range order[length:] {
				c.Ask(part, 1)
			}
			c.Drop(order[length-1])
			c.Ask(order[0], 1)
			if !slices.Equal(kept, order[:length]) {
				t.Fatalf("the line that was answered: %v, not %v", kept, order[:length])
			}
		}
	}
	// What is answered of an empty line, or of none, is nobody's either.
	c := claim.New()
	for _, n := range numbers {
		_ = append(c.Line(n), 1, 2, 3)
	}
	wantAsk(t, c, 2, 1, true, api.OK)
	wantLine(t, c, 1, 2)
}
