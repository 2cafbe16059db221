package claim_test

import (
	"fmt"
	"math"
	"math/rand"
	"slices"
	"strings"
	"testing"

	"escapement/api"
	"escapement/claim"
)

const (
	parts     = 4
	resources = 4
)

// numbers are those of all partitions and resources, and some of which there are none.
var numbers = [...]int{0, 1, 2, 3, 4, -1, 5, 6, 64, 1 << 32, 1<<32 + 1, math.MinInt, math.MinInt + 1, math.MaxInt - 1, math.MaxInt}

// isPart tells whether there is a partition of that number.
func isPart(part int) bool {
	return slices.Contains([]int{0, 1, 2, 3}, part)
}

// isResource tells whether there is a resource of that number.
func isResource(resource int) bool {
	return slices.Contains([]int{1, 2, 3, 4}, resource)
}

// stand is a partition in a resource's line.
type stand struct {
	part, resource int
	holds          bool
}

// model is a claim, as the chapter's words say it: who stands in whichever line, in the order in which they came.
type model struct {
	stands []stand
}

// own is where a partition stands; nil, if it does not.
func (m *model) own(part int) *stand {
	for i := range m.stands {
		if m.stands[i].part == part {
			return &m.stands[i]
		}
	}
	return nil
}

func (m *model) line(resource int) []int {
	var l []int
	for _, s := range m.stands {
		if s.resource == resource {
			l = append(l, s.part)
		}
	}
	return l
}

func (m *model) holder(resource int) (int, bool) {
	for _, s := range m.stands {
		if s.resource == resource && s.holds {
			return s.part, true
		}
	}
	return 0, false
}

func (m *model) in(part int) (int, bool) {
	if s := m.own(part); s != nil {
		return s.resource, true
	}
	return 0, false
}

// isFirst tells whether nobody stands ahead of a partition in a line in which it stands.
func (m *model) isFirst(part, resource int) bool {
	return slices.Index(m.line(resource), part) == 0
}

func (m *model) ask(part, resource int) (bool, api.Errno) {
	if !isPart(part) || !isResource(resource) {
		return false, api.ErrRange
	}
	s := m.own(part)
	switch {
	case s == nil:
		m.stands = append(m.stands, stand{part, resource, false})
	case s.resource != resource:
		return false, api.ErrState
	case s.holds:
		return false, api.ErrHeld
	}
	return m.isFirst(part, resource), api.OK
}

func (m *model) hold(part, resource int) api.Errno {
	if !isPart(part) || !isResource(resource) {
		return api.ErrRange
	}
	s := m.own(part)
	switch {
	case s != nil && *s == stand{part, resource, true}:
		return api.ErrHeld
	case !m.isFirst(part, resource):
		return api.ErrState
	}
	s.holds = true
	return api.OK
}

func (m *model) give(part, resource int) api.Errno {
	if !isPart(part) || !isResource(resource) {
		return api.ErrRange
	}
	if !slices.Contains(m.stands, stand{part, resource, true}) {
		return api.ErrFree
	}
	m.drop(part)
	return api.OK
}

func (m *model) drop(part int) (int, bool) {
	resource, is := m.in(part)
	m.stands = slices.DeleteFunc(m.stands, func(s stand) bool { return s.part == part })
	return resource, is
}

// row is a line, to be held against others.
type row struct {
	length int
	parts  [parts + 1]int
}

func rowOf(l []int) row {
	r := row{length: len(l)}
	copy(r.parts[:], l)
	return r
}

// told is what is told of a number, as a resource's, and as a partition's.
type told struct {
	line   row
	holder int
	isHeld bool
	in     int
	isIn   bool
}

// state is all that is told, of each number.
type state [len(numbers)]told

// asked is what a claim, or a model, is asked.
type asked struct {
	line       func(resource int) []int
	holder, in func(n int) (int, bool)
}

func (a asked) state() state {
	var s state
	for i, n := range numbers {
		s[i].line = rowOf(a.line(n))
		s[i].holder, s[i].isHeld = a.holder(n)
		s[i].in, s[i].isIn = a.in(n)
	}
	return s
}

func stateOf(c *claim.Claim) state {
	return asked{c.Line, c.Holder, c.In}.state()
}

func (m *model) state() state {
	return asked{m.line, m.holder, m.in}.state()
}

// call is one that changes a claim.
type call struct {
	what           string
	part, resource int
}

// answer is what came of a call.
type answer struct {
	n  int
	is bool
	e  api.Errno
}

// done is what comes of a call of a claim.
func (x call) done(c *claim.Claim) answer {
	var a answer
	switch x.what {
	case "Ask":
		a.is, a.e = c.Ask(x.part, x.resource)
	case "Hold":
		a.e = c.Hold(x.part, x.resource)
	case "Give":
		a.e = c.Give(x.part, x.resource)
	case "Drop":
		a.n, a.is = c.Drop(x.part)
	}
	return a
}

// said is what the model says that comes of it.
func (x call) said(m *model) answer {
	var a answer
	switch x.what {
	case "Ask":
		a.is, a.e = m.ask(x.part, x.resource)
	case "Hold":
		a.e = m.hold(x.part, x.resource)
	case "Give":
		a.e = m.give(x.part, x.resource)
	case "Drop":
		a.n, a.is = m.drop(x.part)
	}
	return a
}

// callsOf are all calls with some parts and resources.
func callsOf(parts, resources []int) []call {
	var l []call
	for _, part := range parts {
		for _, resource := range resources {
			for _, what := range []string{"Ask", "Hold", "Give"} {
				l = append(l, call{what, part, resource})
			}
		}
		l = append(l, call{"Drop", part, 0})
	}
	return l
}

// both are a claim and the model of it, of which the same is asked.
type both struct {
	t     *testing.T
	c     *claim.Claim
	m     *model
	calls []call // so far: told where something is wrong
}

// bothOf are those behind some calls.
func bothOf(t *testing.T, calls ...call) *both {
	t.Helper()
	b := &both{t: t, c: claim.New(), m: &model{}}
	b.same()
	for _, x := range calls {
		b.do(x)
	}
	return b
}

// fail fails the test, and says what was called.
func (b *both) fail(what string, got, want any) {
	b.t.Helper()
	var calls strings.Builder
	for _, x := range b.calls {
		fmt.Fprintf(&calls, " %s(%d, %d);", x.what, x.part, x.resource)
	}
	b.t.Fatalf("%s %s: %v, not %v", calls.String(), what, got, want)
}

// same fails the test unless all that the claim tells is what the model says.
func (b *both) same() {
	b.t.Helper()
	want := b.m.state()
	if got := stateOf(b.c); got != want {
		b.fail("state", got, want)
	}
}

// do is a call of both, which answer the same, and are the same behind it.
func (b *both) do(x call) answer {
	b.t.Helper()
	b.calls = append(b.calls, x)
	got, want := x.done(b.c), x.said(b.m)
	if got != want {
		b.fail("answer", got, want)
	}
	b.same()
	return got
}

// P21.1 to P21.5: each call, of each state in which four lines can be: it answers what the model says, and becomes what that says.
func TestEveryState(t *testing.T) {
	every := callsOf([]int{0, 1, 2, 3, -1, 4}, []int{1, 2, 3, 4, 0, 5})
	start := (&model{}).state()
	ways := map[state][]call{start: nil}
	for todo := []state{start}; len(todo) > 0; todo = todo[1:] {
		way := ways[todo[0]]
		b := bothOf(t, way...)
		for _, x := range every {
			b.do(x)
			s := b.m.state()
			if s == todo[0] {
				// Nothing has changed, and nothing is wrong: what was called last is as good as not called.
				b.calls = b.calls[:len(way)]
				continue
			}
			if _, is := ways[s]; !is {
				ways[s] = slices.Clone(b.calls)
				todo = append(todo, s)
			}
			b = bothOf(t, way...)
		}
	}
	// So many ways there are to stand in up to four lines, each of them held or not.
	if len(ways) != 1+32+384+2112+4608 {
		t.Errorf("%d states", len(ways))
	}
}

// P21.1 to P21.5: every row of some calls of three partitions and two resources.
func TestEveryRow(t *testing.T) {
	calls := callsOf([]int{0, 1, 3}, []int{1, 4})
	const length = 4
	rows := 1
	for range length {
		rows *= len(calls)
	}
	for row := range rows {
		b := bothOf(t)
		for range length {
			b.do(calls[row%len(calls)])
			row /= len(calls)
		}
	}
}

// someCall is one of those of all partitions and resources, mostly of what there is.
func someCall(random *rand.Rand, often map[string]int) call {
	x := call{"Drop", random.Intn(parts), 1 + random.Intn(resources)}
	n := random.Intn(100)
	for _, what := range []string{"Ask", "Hold", "Give"} {
		if n -= often[what]; n < 0 {
			x.what = what
			break
		}
	}
	switch random.Intn(40) {
	case 0:
		x.part = numbers[random.Intn(len(numbers))]
	case 1:
		x.resource = numbers[random.Intn(len(numbers))]
	}
	return x
}

// P21.1 to P21.6: long runs of Ask, Hold, Give and Drop in any order, in some of which all partitions want the same.
func TestLongRuns(t *testing.T) {
	random := rand.New(rand.NewSource(21))
	came, longest := map[string]map[answer]int{}, [parts + 1]int{}
	for _, what := range []string{"Ask", "Hold", "Give", "Drop"} {
		came[what] = map[answer]int{}
	}
	for run := range 600 {
		b := bothOf(t)
		often := []map[string]int{{"Ask": 40, "Hold": 25, "Give": 25}, {"Ask": 60, "Hold": 20, "Give": 19}, {"Ask": 30, "Hold": 30, "Give": 30}}[run%3]
		for range 500 {
			x := someCall(random, often)
			if in, is := b.m.in(x.part); is && random.Intn(2) == 0 {
				x.resource = in
			} else if run%4 == 0 {
				x.resource = 1
			}
			came[x.what][b.do(x)]++
			longest[len(b.m.line(1))]++
		}
	}
	for what, least := range map[string][]answer{
		"Ask":  {{is: true}, {}, {e: api.ErrState}, {e: api.ErrHeld}, {e: api.ErrRange}},
		"Hold": {{}, {e: api.ErrState}, {e: api.ErrHeld}, {e: api.ErrRange}},
		"Give": {{}, {e: api.ErrFree}, {e: api.ErrRange}},
		"Drop": {{n: 1, is: true}, {n: 2, is: true}, {n: 3, is: true}, {n: 4, is: true}, {}},
	} {
		for _, a := range least {
			if came[what][a] < 500 {
				t.Errorf("%s: %v came %d times", what, a, came[what][a])
			}
		}
	}
	for length, times := range longest {
		if times < 5000 {
			t.Errorf("a line of %d: %d times", length, times)
		}
	}
}
