package act_test

import (
	"fmt"
	"math"
	"math/rand"
	"slices"
	"strings"
	"testing"

	"escapement/act"
	"escapement/api"
)

// kinds are numbers of kinds, and some that no kind has.
var kinds = []int{1, 2, 3, 4, 5, 6, 7, 8, 0, 9, -1, math.MinInt, math.MaxInt, 10, 16, 31, 32, 33, 64, 255, 256, 257, 264, 1 << 32, 1<<32 + 1, 1<<32 + 6, -2, -8, -(1 << 32), -(1 << 32) + 1, math.MinInt + 1, math.MaxInt - 1}

// numbers are those that acts of some kind are told, and some that none is.
var numbers = []int{0, 1, 2, 6, 7, 8, 9, 15, 16, 17, 31, 32, 62, 63, 64, 65, 66, 128, 255, 256, 257, -1, -2, -7, -8, -63, -64, -65, 1 << 32, 1<<32 + 1, 1<<32 + 7, -(1 << 32), -(1 << 32) + 1, math.MinInt, math.MinInt + 1, math.MaxInt - 1, math.MaxInt}

// texts are such of each length about the edges, and of any bytes.
var texts = []string{"", "a", "\x00", "ab", strings.Repeat("b", 15), strings.Repeat("c", 16), strings.Repeat("\x00", 16), strings.Repeat("\xff", 16), strings.Repeat("é", 8), strings.Repeat("d", 17), strings.Repeat("é", 8) + "e", strings.Repeat("é", 9), strings.Repeat("\x00", 17), strings.Repeat("e", 32), strings.Repeat("f", 256), strings.Repeat("g", 65536)}

// mayBe tells whether an act may be, as the chapter's table says it.
func mayBe(op api.Op) bool {
	empty := op.S == ""
	switch op.Kind {
	case 1, 8:
		return 1 <= op.N && op.N <= 64 && empty
	case 2, 7:
		return 0 <= op.N && op.N <= 7 && empty
	case 3, 4, 5:
		return op.N == 0 && empty
	case 6:
		return 0 <= op.N && op.N <= 7 && len([]byte(op.S)) <= 16
	}
	return false
}

// acts is all of those numbers and texts, of each kind, that may be, or that may not.
func acts(may bool) []api.Op {
	var l []api.Op
	for _, kind := range kinds {
		for _, n := range numbers {
			for _, s := range texts {
				if op := (api.Op{Kind: kind, N: n, S: s}); mayBe(op) == may {
					l = append(l, op)
				}
			}
		}
	}
	return l
}

// run is an OpRun of so many ticks.
func run(n int) api.Op {
	return api.Op{Kind: api.OpRun, N: n}
}

// lock is an OpLock of a resource.
func lock(n int) api.Op {
	return api.Op{Kind: api.OpLock, N: n}
}

// send is an OpSend to a port.
func send(n int, s string) api.Op {
	return api.Op{Kind: api.OpSend, N: n, S: s}
}

// times is an act so often.
func times(op api.Op, n int) []api.Op {
	return slices.Repeat([]api.Op{op}, n)
}

// made is a row of acts, which may be.
func made(t *testing.T, ops []api.Op) *act.Row {
	t.Helper()
	r, e := act.New(ops)
	if r == nil || e != api.OK {
		t.Fatalf("New(%v): %v, %d", ops, r, e)
	}
	return r
}

// step is a tick of an OpRun, or another act.
type step struct {
	op    api.Op
	place int // in the row as it was handed in
}

// model is a row, as the chapter's words say it: each tick of an OpRun a step of its own.
type model struct {
	steps []step
}

// modelOf is that of acts, which may be.
func modelOf(ops []api.Op) *model {
	m := &model{}
	for place, op := range ops {
		if op.Kind != api.OpRun {
			m.steps = append(m.steps, step{op, place})
			continue
		}
		for range op.N {
			m.steps = append(m.steps, step{op, place})
		}
	}
	return m
}

// rest is the acts whose steps are left: of an OpRun with as many ticks as it has steps.
func (m *model) rest() []api.Op {
	var l []api.Op
	place := -1
	for _, x := range m.steps {
		switch {
		case x.place == place:
			l[len(l)-1].N++
		case x.op.Kind == api.OpRun:
			l = append(l, run(1))
		default:
			l = append(l, x.op)
		}
		place = x.place
	}
	return l
}

// left is how many steps are ticks.
func (m *model) left() int {
	ticks := 0
	for _, x := range m.steps {
		if x.op.Kind == api.OpRun {
			ticks++
		}
	}
	return ticks
}

// goes takes out the first step, if there is one, and it is a tick as is told.
func (m *model) goes(tick bool) api.Errno {
	if len(m.steps) == 0 || (m.steps[0].op.Kind == api.OpRun) != tick {
		return api.ErrState
	}
	m.steps = m.steps[1:]
	return api.OK
}

// both are a row and the model of it, of which the same is asked.
type both struct {
	t      *testing.T
	r      *act.Row
	m      *model
	called string // so far: told where something is wrong
}

// bothOf are those of acts, which may be.
func bothOf(t *testing.T, ops []api.Op) *both {
	t.Helper()
	b := &both{t: t, r: made(t, ops), m: modelOf(ops), called: fmt.Sprintf("New(%v)", ops)}
	b.same()
	return b
}

// fail fails the test, and says what was called.
func (b *both) fail(what string, got, want any) {
	b.t.Helper()
	b.t.Fatalf("%s: %s: %v, not %v", b.called, what, got, want)
}

// same fails the test unless Next, Done, Left and Rest are what the model says.
func (b *both) same() {
	b.t.Helper()
	rest := b.m.rest()
	var first api.Op
	if len(rest) > 0 {
		first = rest[0]
	}
	if op, is := b.r.Next(); op != first || is != (len(rest) > 0) {
		b.fail("Next()", fmt.Sprint(op, is), fmt.Sprint(first, len(rest) > 0))
	}
	if is := b.r.Done(); is != (len(rest) == 0) {
		b.fail("Done()", is, len(rest) == 0)
	}
	if got, want := b.r.Left(), b.m.left(); got != want {
		b.fail("Left()", got, want)
	}
	if got := b.r.Rest(); !slices.Equal(got, rest) {
		b.fail("Rest()", got, rest)
	}
}

func (b *both) did() api.Errno {
	b.t.Helper()
	b.called += " Did()"
	e, want := b.r.Did(), b.m.goes(false)
	if e != want {
		b.fail("it", e, want)
	}
	b.same()
	return e
}

func (b *both) ran() api.Errno {
	b.t.Helper()
	b.called += " Ran()"
	e, want := b.r.Ran(), b.m.goes(true)
	if e != want {
		b.fail("it", e, want)
	}
	b.same()
	return e
}

// goes does what goes on, so often.
func (b *both) goes(times int) *both {
	b.t.Helper()
	for range times {
		if op, _ := b.r.Next(); op.Kind == api.OpRun {
			b.ran()
		} else {
			b.did()
		}
	}
	return b
}

// end goes on to the end, and asks once more then.
func (b *both) end() {
	b.t.Helper()
	b.goes(len(b.m.steps))
	if !b.r.Done() {
		b.fail("Done()", false, true)
	}
	for range 2 {
		b.did()
		b.ran()
	}
}

// anyAct is one of any kind, with any N that it may have.
func anyAct(random *rand.Rand) api.Op {
	switch kind := 1 + random.Intn(8); kind {
	case api.OpRun, api.OpLater:
		return api.Op{Kind: kind, N: 1 + random.Intn(64)>>random.Intn(7)}
	case api.OpUnlock, api.OpTake, api.OpGive:
		return api.Op{Kind: kind}
	case api.OpSend:
		return send(random.Intn(8), strings.Repeat(string(rune('a'+random.Intn(26))), random.Intn(17)))
	default:
		return api.Op{Kind: kind, N: random.Intn(8)}
	}
}

// anyRow is so many acts, of which about one of so many is of any kind, and the others are OpRun.
func anyRow(random *rand.Rand, many, others int) []api.Op {
	var l []api.Op
	for range many {
		op := anyAct(random)
		if random.Intn(others) > 0 {
			op = run(1 + random.Intn(64)>>random.Intn(7))
		}
		l = append(l, op)
	}
	return l
}

// P16.2, P16.3: every row of up to four acts of a few, with every row of calls that is long enough to go to its end, and beyond.
func TestEveryRow(t *testing.T) {
	few := []api.Op{run(1), run(2), lock(3), send(1, "ab"), {Kind: api.OpLater, N: 2}}
	rows := [][]api.Op{nil}
	for from := 0; from < len(rows); from++ {
		ops := rows[from]
		for calls := range 1 << 6 {
			b := bothOf(t, ops)
			for i := range 6 {
				if calls>>i&1 == 0 {
					b.did()
				} else {
					b.ran()
				}
			}
		}
		if len(ops) == 4 {
			continue
		}
		for _, op := range few {
			rows = append(rows, append(slices.Clone(ops), op))
		}
	}
	if len(rows) != 1+5+25+125+625 {
		t.Errorf("so many rows: %d", len(rows))
	}
}

// P16.2, P16.3: long runs of Did and Ran in any order, of rows of each length, of few OpRun and of many.
func TestLongRuns(t *testing.T) {
	random := rand.New(rand.NewSource(16))
	errors := map[api.Errno]int{}
	done := 0
	for many := range api.MaxOps + 1 {
		for others := 1; others <= 12; others++ {
			b := bothOf(t, anyRow(random, many, others))
			// Some rows are left ahead of their end.
			for range random.Intn(1 << (4 + random.Intn(9))) {
				e := api.OK
				if random.Intn(2) == 0 {
					e = b.did()
				} else {
					e = b.ran()
				}
				errors[e]++
				b.called = ""
			}
			if b.r.Done() {
				done++
			}
			b.end()
		}
	}
	if errors[api.OK] < 10000 || errors[api.ErrState] < 10000 || done < 100 || done > 300 {
		t.Errorf("errors %v, done %d", errors, done)
	}
}
