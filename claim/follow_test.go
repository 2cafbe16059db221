package claim_test

import (
	"math/rand"
	"slices"
	"testing"

	"escapement/api"
	"escapement/claim"
)

// came is what is told by the answers alone: for each partition that stands in a line, which call let it come there.
type came map[int]int

// note notes what a call was answered.
func (l came) note(x call, a answer, call int) {
	switch {
	case x.what == "Ask" && a.e == api.OK:
		if _, is := l[x.part]; !is {
			l[x.part] = call
		}
	case x.what == "Give" && a.e == api.OK, x.what == "Drop" && a.is:
		delete(l, x.part)
	}
}

// wantOrder fails the test unless each partition that came, and has not gone, stands in one line, once, behind all that came sooner.
func wantOrder(t *testing.T, c *claim.Claim, l came) {
	t.Helper()
	stand := 0
	for resource := 1; resource <= resources; resource++ {
		line := c.Line(resource)
		stand += len(line)
		for i, part := range line {
			at, is := l[part]
			in, isIn := c.In(part)
			if !is || !isIn || in != resource {
				t.Fatalf("%d stands in the line %v of %d: came: %t; In: %d, %t", part, line, resource, is, in, isIn)
			}
			if i > 0 && l[line[i-1]] >= at {
				t.Fatalf("line %v: %d came later than %d", line, line[i-1], part)
			}
		}
	}
	if stand != len(l) {
		t.Fatalf("%d stand in lines, of %v", stand, l)
	}
}

// wantHolders fails the test unless each resource that is held is held by the first one of its line, who waits nowhere.
func wantHolders(t *testing.T, c *claim.Claim) (held int) {
	t.Helper()
	for resource := 1; resource <= resources; resource++ {
		part, is := c.Holder(resource)
		if !is {
			continue
		}
		held++
		if line := c.Line(resource); len(line) == 0 || line[0] != part {
			t.Fatalf("%d holds %d, of which the line is %v", part, resource, line)
		}
		for other := 1; other <= resources; other++ {
			if other != resource && slices.Contains(c.Line(other), part) {
				t.Fatalf("%d holds %d, and stands in the line %v", part, resource, c.Line(other))
			}
		}
	}
	return held
}

// P21.6: in long runs of any calls: who stands in a line stands behind who came sooner, and ahead of who came later, till it gives back, or is dropped; and nobody but the first one holds.
func TestInOrder(t *testing.T) {
	random := rand.New(rand.NewSource(216))
	held, waited := 0, 0
	for run := range 400 {
		c, l := claim.New(), came{}
		often := map[string]int{"Ask": 50, "Hold": 25, "Give": 18 + run%8}
		for i := range 300 {
			x := someCall(random, often)
			if run%2 == 0 {
				x.resource = 1 + random.Intn(2)
			}
			l.note(x, x.done(c), i)
			wantOrder(t, c, l)
			h := wantHolders(t, c)
			held += h
			waited += len(l) - h
		}
	}
	if held < 50000 || waited < 50000 {
		t.Errorf("held %d, waited %d", held, waited)
	}
}

// ways are those in which a partition of the line of 2 goes, if it can so: a Drop, a Drop of who holds, and a Give.
var ways = []func(c *claim.Claim, part int) bool{
	func(c *claim.Claim, part int) bool {
		_, is := c.Drop(part)
		return is
	},
	func(c *claim.Claim, part int) bool {
		if c.Hold(part, 2) != api.OK {
			return false
		}
		_, is := c.Drop(part)
		return is
	},
	func(c *claim.Claim, part int) bool {
		return c.Hold(part, 2) == api.OK && c.Give(part, 2) == api.OK
	},
}

// follow lets all that stand ahead of a partition go, in each order and in each way, and come again at once: it is the first one only when all have gone, and never again behind anybody.
func follow(t *testing.T, who, ahead int, behind func() *claim.Claim) (ends int) {
	t.Helper()
	c := behind()
	if at := slices.Index(c.Line(2), who); at != ahead {
		t.Fatalf("%d stands at %d in %v, not %d", who, at, c.Line(2), ahead)
	}
	wantAsk(t, c, who, 2, ahead == 0, api.OK)
	if ahead == 0 {
		wantErrno(t, "Hold of who waited", c.Hold(who, 2), api.OK)
		return 1
	}
	wantErrno(t, "Hold of who waits", c.Hold(who, 2), api.ErrState)
	for _, part := range c.Line(2)[:ahead] {
		for _, w := range ways {
			if !w(behind(), part) {
				continue
			}
			ends += follow(t, who, ahead-1, func() *claim.Claim {
				c := behind()
				w(c, part)
				// Who comes again comes later than who waits.
				c.Ask(part, 2)
				return c
			})
		}
	}
	return ends
}

// P21.6: who stands in a line comes to be the first one when all that stood ahead have given it back, or were dropped, in whichever order, though they come again at once.
func TestComesFirst(t *testing.T) {
	for _, line := range everyOrder([]int{0, 1, 2, 3}) {
		for length := 2; length <= parts; length++ {
			ends := follow(t, line[length-1], length-1, func() *claim.Claim {
				return lined(t, 2, line[:length]...)
			})
			// The first one of those ahead may go in three ways, each other one in one.
			if want := []int{3, 3 * (3 + 1), 3 * (3 + 1) * (3 + 1 + 1)}[length-2]; ends != want {
				t.Errorf("%d ahead of %d: %d ends, not %d", length-1, line[length-1], ends, want)
			}
		}
	}
}
