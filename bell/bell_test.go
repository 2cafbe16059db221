package bell_test

import (
	"fmt"
	"math"
	"math/rand"
	"slices"
	"testing"

	"escapement/api"
	"escapement/bell"
)

const (
	most  = api.MaxTick
	kinds = 4
	ids   = 16
)

// noKinds, noIds, noTicks are numbers of kinds, of ids, of ticks that there may not be.
var (
	noKinds = []int{-1, -2, -kinds, kinds, kinds + 1, ids, kinds * ids, math.MinInt, math.MaxInt, 1 << 60, -(1 << 60)}
	noIds   = []int{-1, -2, -ids, ids, ids + 1, 2*ids + 3, kinds * ids, math.MinInt, math.MaxInt, 1 << 32}
	noTicks = []int{-1, -2, -most, math.MinInt, most + 1, most + 2, math.MaxInt}
)

// name is what a bell is known by.
type name struct{ kind, id int }

// tick is what At and Next answer.
type tick struct {
	at int
	is bool
}

// ring is a bell, in the order in which the chapter's examples tell it.
func ring(at, kind, id int) api.Bell {
	return api.Bell{At: at, Kind: kind, Id: id}
}

// names are all bells that there may be.
func names() []name {
	var l []name
	for kind := range kinds {
		for id := range ids {
			l = append(l, name{kind, id})
		}
	}
	return l
}

// noNames are some that there may not be, among them those whose numbers would be another bell's.
func noNames() []name {
	l := []name{{-1, ids}, {-1, 2*ids - 1}, {kinds, -1}, {kinds, -ids}, {kinds + 1, -2 * ids}}
	for _, kind := range noKinds {
		for _, id := range []int{0, 3, ids - 1, -1, ids} {
			l = append(l, name{kind, id})
		}
	}
	for _, id := range noIds {
		for kind := range kinds {
			l = append(l, name{kind, id})
		}
	}
	return l
}

// same fails the test unless what a call answered is what is wanted.
func same[T comparable](t *testing.T, call string, got, want T) {
	t.Helper()
	if got != want {
		t.Errorf("%s: %v, want %v", call, got, want)
	}
}

// sameBells fails the test unless what Due answered is what is wanted.
func sameBells(t *testing.T, call string, got, want []api.Bell) {
	t.Helper()
	if !slices.Equal(got, want) {
		t.Errorf("%s: %v, want %v", call, got, want)
	}
}

func at(b *bell.Bells, kind, id int) tick {
	n, is := b.At(kind, id)
	return tick{n, is}
}

func next(b *bell.Bells) tick {
	n, is := b.Next()
	return tick{n, is}
}

// arm arms bells, none of which may be answered an error.
func arm(t *testing.T, b *bell.Bells, l ...api.Bell) *bell.Bells {
	t.Helper()
	for _, x := range l {
		same(t, fmt.Sprintf("Arm(%d, %d, %d)", x.Kind, x.Id, x.At), b.Arm(x.Kind, x.Id, x.At), api.OK)
	}
	return b
}

// model is what bells are to be: names with their ticks, without any order of their own.
type model map[name]int

// modelOf is the model of bells that were armed.
func modelOf(l ...api.Bell) model {
	m := model{}
	for _, x := range l {
		m[name{x.Kind, x.Id}] = x.At
	}
	return m
}

// isAhead tells whether a comes ahead of b.
func isAhead(a, b api.Bell) bool {
	if a.At != b.At {
		return a.At < b.At
	}
	if a.Kind != b.Kind {
		return a.Kind < b.Kind
	}
	return a.Id < b.Id
}

// order is all that are armed, in order.
func (m model) order() []api.Bell {
	var l []api.Bell
	for n, at := range m {
		l = append(l, ring(at, n.kind, n.id))
	}
	slices.SortFunc(l, func(a, b api.Bell) int {
		if isAhead(a, b) {
			return -1
		}
		return 1
	})
	return l
}

func (m model) arm(kind, id, at int) api.Errno {
	if kind < 0 || kind >= kinds || id < 0 || id >= ids {
		return api.ErrRange
	}
	if at < 0 || at > most {
		return api.ErrArg
	}
	m[name{kind, id}] = at
	return api.OK
}

func (m model) cancel(kind, id int) bool {
	_, was := m[name{kind, id}]
	delete(m, name{kind, id})
	return was
}

func (m model) at(kind, id int) tick {
	at, is := m[name{kind, id}]
	return tick{at, is}
}

func (m model) next() tick {
	if len(m) == 0 {
		return tick{}
	}
	return tick{m.order()[0].At, true}
}

func (m model) due(now int) []api.Bell {
	var l []api.Bell
	for _, x := range m.order() {
		if x.At <= now {
			l = append(l, x)
			delete(m, name{x.Kind, x.Id})
		}
	}
	return l
}

// sameAll fails the test unless all that bells can be asked without changing them is what the model says.
func sameAll(t *testing.T, when string, b *bell.Bells, m model) {
	t.Helper()
	if got := b.Count(); got != len(m) {
		t.Fatalf("%s: Count(): %d, want %d", when, got, len(m))
	}
	if got := next(b); got != m.next() {
		t.Fatalf("%s: Next(): %v, want %v", when, got, m.next())
	}
	for kind := -1; kind <= kinds; kind++ {
		for id := -1; id <= ids; id++ {
			if got, want := at(b, kind, id), m.at(kind, id); got != want {
				t.Fatalf("%s: At(%d, %d): %v, want %v", when, kind, id, got, want)
			}
		}
	}
}

// The chapter's examples.
func TestExamples(t *testing.T) {
	b := bell.New()
	same(t, "Arm(1, 3, 7)", b.Arm(1, 3, 7), api.OK)
	same(t, "Arm(0, 9, 7)", b.Arm(0, 9, 7), api.OK)
	same(t, "Arm(2, 0, 5)", b.Arm(2, 0, 5), api.OK)
	same(t, "Next()", next(b), tick{5, true})

	same(t, "Arm(2, 0, 8)", b.Arm(2, 0, 8), api.OK)
	sameBells(t, "Due(7)", b.Due(7), []api.Bell{ring(7, 0, 9), ring(7, 1, 3)})
	same(t, "Count()", b.Count(), 1)

	same(t, "Cancel(2, 0)", b.Cancel(2, 0), true)
	same(t, "Cancel(2, 0)", b.Cancel(2, 0), false)
	same(t, "Arm(4, 0, 1)", b.Arm(4, 0, 1), api.ErrRange)
	same(t, "Arm(0, 0, -1)", b.Arm(0, 0, -1), api.ErrArg)
	sameAll(t, "at the end", b, model{})
}

// Of bells that are none all calls tell so, whatever they are handed, and they stay none.
func TestNone(t *testing.T) {
	for name, b := range map[string]*bell.Bells{"nil": nil, "zero": {}, "new": new(bell.Bells)} {
		for range 2 {
			for _, n := range slices.Concat(names(), noNames()) {
				for _, tick := range []int{0, 1, most, -1, most + 1} {
					same(t, name+": Arm", b.Arm(n.kind, n.id, tick), api.ErrNil)
				}
				same(t, name+": Cancel", b.Cancel(n.kind, n.id), false)
				same(t, name+": At", at(b, n.kind, n.id), tick{})
			}
			same(t, name+": Next", next(b), tick{})
			for _, now := range slices.Concat([]int{0, 1, most}, noTicks) {
				same(t, name+": Due", len(b.Due(now)), 0)
			}
			same(t, name+": Count", b.Count(), 0)
		}
	}
}

// P3.1, P3.2: without an armed bell there is nothing to tell, whether bells are new, or all were cancelled, or are due.
func TestEmpty(t *testing.T) {
	two := []api.Bell{ring(7, 0, 0), ring(7, 3, 15)}
	cancelled, told := arm(t, bell.New(), two...), arm(t, bell.New(), two...)
	same(t, "Cancel(0, 0)", cancelled.Cancel(0, 0), true)
	same(t, "Cancel(3, 15)", cancelled.Cancel(3, 15), true)
	sameBells(t, "Due(7)", told.Due(7), two)
	for when, b := range map[string]*bell.Bells{"new": bell.New(), "cancelled": cancelled, "due": told} {
		for range 2 {
			sameAll(t, when, b, model{})
			for _, now := range slices.Concat([]int{0, 7, most}, noTicks) {
				same(t, fmt.Sprintf("%s: Due(%d)", when, now), len(b.Due(now)), 0)
			}
			for _, n := range names() {
				same(t, fmt.Sprintf("%s: Cancel(%d, %d)", when, n.kind, n.id), b.Cancel(n.kind, n.id), false)
			}
		}
		arm(t, b, ring(9, 2, 4))
		sameAll(t, when+", and one armed", b, modelOf(ring(9, 2, 4)))
	}
}

// P3.1: New is others each time.
func TestNewIsAnother(t *testing.T) {
	a, b := arm(t, bell.New(), ring(1, 1, 1), ring(2, 2, 2)), bell.New()
	sameAll(t, "the others", b, model{})
	arm(t, b, ring(9, 1, 1))
	same(t, "Cancel(2, 2)", b.Cancel(2, 2), false)
	sameAll(t, "the first ones", a, modelOf(ring(1, 1, 1), ring(2, 2, 2)))
	a.Due(most)
	sameAll(t, "the others", b, modelOf(ring(9, 1, 1)))
}

// P3.1: each bell that may be is one of its own.
func TestArmEach(t *testing.T) {
	for _, n := range names() {
		b := arm(t, bell.New(), ring(12, n.kind, n.id))
		sameAll(t, fmt.Sprintf("Arm(%d, %d, 12)", n.kind, n.id), b, model{n: 12})
		for _, other := range names() {
			if other != n {
				same(t, fmt.Sprintf("Cancel(%d, %d)", other.kind, other.id), b.Cancel(other.kind, other.id), false)
			}
		}
		sameAll(t, "behind Cancel of others", b, model{n: 12})
		same(t, fmt.Sprintf("Cancel(%d, %d)", n.kind, n.id), b.Cancel(n.kind, n.id), true)
		sameAll(t, "behind Cancel", b, model{})
		arm(t, b, ring(0, n.kind, n.id))
		sameBells(t, "Due(0)", b.Due(0), []api.Bell{ring(0, n.kind, n.id)})
		sameAll(t, "behind Due", b, model{})
	}
}

// P3.1: what may not be armed, whether there are armed bells or not.
func TestArmErrors(t *testing.T) {
	some := []api.Bell{ring(4, 0, 0), ring(4, 3, 15), ring(4, 1, 0), ring(0, 0, 15), ring(most, 2, 7)}
	for _, l := range [][]api.Bell{nil, some} {
		b := arm(t, bell.New(), l...)
		for _, n := range noNames() {
			// A kind, or an id, that may not be is told ahead of a tick that may not be.
			for _, tick := range slices.Concat([]int{0, 4, most}, noTicks) {
				same(t, fmt.Sprintf("Arm(%d, %d, %d)", n.kind, n.id, tick), b.Arm(n.kind, n.id, tick), api.ErrRange)
			}
		}
		for _, n := range names() {
			for _, tick := range noTicks {
				same(t, fmt.Sprintf("Arm(%d, %d, %d)", n.kind, n.id, tick), b.Arm(n.kind, n.id, tick), api.ErrArg)
			}
		}
		sameAll(t, "behind errors", b, modelOf(l...))
		sameBells(t, "Due(MaxTick) behind errors", b.Due(most), modelOf(l...).order())
	}
}

// P3.1: the edges of kinds, ids and ticks, with all that Arm answers, each with each.
func TestArmEdges(t *testing.T) {
	for _, kind := range []int{-1, 0, kinds - 1, kinds} {
		for _, id := range []int{-1, 0, ids - 1, ids} {
			for _, tick := range []int{-1, 0, most, most + 1} {
				b, m := bell.New(), model{}
				call := fmt.Sprintf("Arm(%d, %d, %d)", kind, id, tick)
				same(t, call, b.Arm(kind, id, tick), m.arm(kind, id, tick))
				sameAll(t, call, b, m)
			}
		}
	}
}

// P3.1: a bell that is armed anew is armed at that tick alone: earlier, later, at the same one.
func TestArmAnew(t *testing.T) {
	ticks := []int{0, 1, 6, 7, 8, most - 1, most}
	for _, was := range ticks {
		for _, is := range ticks {
			b := arm(t, bell.New(), ring(7, 0, 5), ring(was, 1, 5), ring(7, 2, 5), ring(is, 1, 5))
			m := modelOf(ring(7, 0, 5), ring(is, 1, 5), ring(7, 2, 5))
			call := fmt.Sprintf("armed at %d, then at %d", was, is)
			sameAll(t, call, b, m)
			for _, now := range ticks {
				sameBells(t, fmt.Sprintf("%s: Due(%d)", call, now), b.Due(now), m.due(now))
				sameAll(t, call, b, m)
			}
		}
	}
}

// P3.1: an error leaves a bell armed as it was.
func TestArmAnewErrors(t *testing.T) {
	for _, was := range []int{0, 5, most} {
		b := arm(t, bell.New(), ring(was, 2, 3))
		for _, tick := range noTicks {
			same(t, fmt.Sprintf("Arm(2, 3, %d)", tick), b.Arm(2, 3, tick), api.ErrArg)
			sameAll(t, "behind ErrArg", b, modelOf(ring(was, 2, 3)))
		}
	}
}

// P3.1: whichever bell is cancelled, the others stay, in order.
func TestCancelEach(t *testing.T) {
	random := rand.New(rand.NewSource(3))
	for _, gone := range names() {
		b, m := bell.New(), model{}
		for _, i := range random.Perm(kinds * ids) {
			n := names()[i]
			m.arm(n.kind, n.id, random.Intn(9))
			arm(t, b, ring(m[n], n.kind, n.id))
		}
		same(t, "Cancel", b.Cancel(gone.kind, gone.id), true)
		same(t, "Cancel again", b.Cancel(gone.kind, gone.id), false)
		m.cancel(gone.kind, gone.id)
		sameAll(t, "behind Cancel", b, m)
		sameBells(t, "Due(8)", b.Due(8), m.due(8))
	}
}

// P3.1: what there may not be is not armed, and its Cancel cancels nothing, even when all others are armed.
func TestCancelAndAtOfNoBells(t *testing.T) {
	b, m := bell.New(), model{}
	for _, n := range names() {
		m[n] = 3
		arm(t, b, ring(3, n.kind, n.id))
	}
	for _, n := range noNames() {
		same(t, fmt.Sprintf("Cancel(%d, %d)", n.kind, n.id), b.Cancel(n.kind, n.id), false)
		same(t, fmt.Sprintf("At(%d, %d)", n.kind, n.id), at(b, n.kind, n.id), tick{})
	}
	sameAll(t, "behind Cancel of no bells", b, m)
}

// P3.2: Next is the least tick, of whichever bell, and 0 may be it.
func TestNext(t *testing.T) {
	b := arm(t, bell.New(), ring(most, 0, 0))
	same(t, "Next()", next(b), tick{most, true})
	for _, l := range [][2]api.Bell{{ring(9, 3, 15), ring(9, 3, 15)}, {ring(10, 0, 1), ring(9, 3, 15)}, {ring(8, 1, 0), ring(8, 1, 0)}, {ring(0, 2, 2), ring(0, 2, 2)}} {
		arm(t, b, l[0])
		same(t, fmt.Sprintf("Next(), %v armed", l[0]), next(b), tick{l[1].At, true})
	}
	for _, want := range []struct {
		gone name
		at   int
	}{{name{2, 2}, 8}, {name{1, 0}, 9}, {name{3, 15}, 10}, {name{0, 1}, most}} {
		same(t, "Cancel", b.Cancel(want.gone.kind, want.gone.id), true)
		same(t, fmt.Sprintf("Next(), %v cancelled", want.gone), next(b), tick{want.at, true})
	}
}

// P3.2: Due below, at and above a bell's tick, at each edge.
func TestDueEdges(t *testing.T) {
	for _, tick := range []int{0, 1, 2, 7, most - 1, most} {
		for _, now := range slices.Concat([]int{0, 1, 2, 6, 7, 8, most - 2, most - 1, most}, noTicks) {
			b, m := arm(t, bell.New(), ring(tick, 2, 9)), modelOf(ring(tick, 2, 9))
			call := fmt.Sprintf("armed at %d, Due(%d)", tick, now)
			sameBells(t, call, b.Due(now), m.due(now))
			sameAll(t, call, b, m)
		}
	}
}

// P3.2: several at one tick are told by kind, then by id, in whichever order they were armed.
func TestDueAtOneTick(t *testing.T) {
	want := []api.Bell{ring(5, 0, 2), ring(5, 0, 15), ring(5, 1, 0), ring(5, 1, 1), ring(5, 2, 0), ring(5, 3, 0)}
	random := rand.New(rand.NewSource(1))
	for range 200 {
		b := arm(t, bell.New(), ring(4, 3, 15), ring(6, 0, 0))
		for _, i := range random.Perm(len(want)) {
			arm(t, b, want[i])
		}
		sameBells(t, "Due(4)", b.Due(4), []api.Bell{ring(4, 3, 15)})
		sameBells(t, "Due(5)", b.Due(5), want)
		sameAll(t, "behind Due(5)", b, modelOf(ring(6, 0, 0)))
	}
}

// P3.1, P3.2: all bells armed, at one tick, at rising and at falling ones.
func TestAllArmed(t *testing.T) {
	for _, step := range []int{0, 1, -1, 3} {
		b, m := bell.New(), model{}
		for i, n := range names() {
			tick := (1000 + i*step) % (kinds*ids + 1000)
			m[n] = tick
			arm(t, b, ring(tick, n.kind, n.id))
		}
		sameAll(t, "all armed", b, m)
		same(t, "Arm(4, 0, 0), all armed", b.Arm(kinds, 0, 0), api.ErrRange)
		same(t, "Arm(0, 16, 0), all armed", b.Arm(0, ids, 0), api.ErrRange)
		for _, now := range []int{0, 999, 1000, 1001, 1030, most} {
			call := fmt.Sprintf("step %d, Due(%d)", step, now)
			sameBells(t, call, b.Due(now), m.due(now))
			sameAll(t, call, b, m)
		}
		same(t, "Count() behind all", b.Count(), 0)
	}
}

// P3.1 to P3.3: asking changes nothing.
func TestAskingChangesNothing(t *testing.T) {
	b, m := bell.New(), model{}
	for i := range 30 {
		kind, id, tick := (i*3)%kinds, (i*11)%ids, 5+(i*7)%5
		m.arm(kind, id, tick)
		arm(t, b, ring(tick, kind, id))
		for range 3 {
			sameAll(t, "asked again", b, m)
			same(t, "Due(4)", len(b.Due(4)), 0)
		}
	}
}

// P3.3: what is answered is new memory, its spare room too.
func TestDueIsNew(t *testing.T) {
	spoil := func(l []api.Bell) {
		for i := range l[:cap(l)] {
			l[:cap(l)][i] = ring(99, 3, 3)
		}
	}
	for size := range 10 {
		b, m := bell.New(), model{}
		for id := range size {
			m.arm(1, id, 5)
			m.arm(2, id, 6)
			arm(t, b, ring(5, 1, id), ring(6, 2, id))
		}
		first := b.Due(5)
		was := slices.Clone(first)
		spoil(b.Due(4))
		sameBells(t, "Due(5)", first, m.due(5))
		spoil(first)
		sameAll(t, "behind a change of what was answered", b, m)
		second := b.Due(6)
		sameBells(t, "Due(6)", second, m.due(6))
		arm(t, b, was...)
		spoil(b.Due(6))
		sameBells(t, "Due(6), when others are changed", second, modelOf(second...).order())
	}
}

// P3.4: Due at rising ticks tells each bell once, at the first of these ticks that is not ahead of it.
func TestDueAtRisingTicks(t *testing.T) {
	for seed := range 40 {
		random := rand.New(rand.NewSource(int64(seed)))
		b := bell.New()
		armed := map[name]int{}
		last := -1
		for now := 0; now < 120; now += 1 + random.Intn(1+seed%6) {
			for range random.Intn(6) {
				n := name{random.Intn(kinds), random.Intn(ids)}
				armed[n] = random.Intn(130)
				arm(t, b, ring(armed[n], n.kind, n.id))
			}
			n := name{random.Intn(kinds), random.Intn(ids)}
			_, was := armed[n]
			same(t, "Cancel", b.Cancel(n.kind, n.id), was)
			delete(armed, n)
			for _, x := range b.Due(now) {
				n := name{x.Kind, x.Id}
				if tick, is := armed[n]; !is || tick != x.At || tick > now {
					t.Errorf("row %d: Due(%d), behind Due(%d), tells %v; armed at %d: %v", seed, now, last, x, tick, is)
				}
				delete(armed, n)
			}
			for n, tick := range armed {
				if tick <= now {
					t.Errorf("row %d: Due(%d) does not tell %v, armed at %d", seed, now, n, tick)
				}
			}
			last = now
		}
	}
}

// P3.5: behind Due(now) no armed bell has a tick of now, or less; Due again tells nothing.
func TestBehindDue(t *testing.T) {
	random := rand.New(rand.NewSource(7))
	for range 300 {
		b := bell.New()
		for range random.Intn(80) {
			arm(t, b, ring(random.Intn(20), random.Intn(kinds), random.Intn(ids)))
		}
		now := random.Intn(22) - 1
		before := b.Count()
		told := b.Due(now)
		same(t, "Count() and what was told", b.Count()+len(told), before)
		for again := range now + 1 {
			same(t, fmt.Sprintf("Due(%d) behind Due(%d)", again, now), len(b.Due(again)), 0)
		}
		if got := next(b); got.is && got.at <= now {
			t.Errorf("Next() behind Due(%d): %v", now, got)
		}
		for _, n := range names() {
			if got := at(b, n.kind, n.id); got.is && got.at <= now {
				t.Errorf("At(%d, %d) behind Due(%d): %v", n.kind, n.id, now, got)
			}
		}
	}
}

// step does one thing, the same one, to bells and to their model, and holds what both answer against each other.
func step(t *testing.T, random *rand.Rand, b *bell.Bells, m model, n name, tick int) string {
	t.Helper()
	switch random.Intn(9) {
	case 0:
		call := fmt.Sprintf("Due(%d)", tick)
		sameBells(t, call, b.Due(tick), m.due(tick))
		return call
	case 1, 2:
		call := fmt.Sprintf("Cancel(%d, %d)", n.kind, n.id)
		same(t, call, b.Cancel(n.kind, n.id), m.cancel(n.kind, n.id))
		return call
	}
	call := fmt.Sprintf("Arm(%d, %d, %d)", n.kind, n.id, tick)
	same(t, call, b.Arm(n.kind, n.id, tick), m.arm(n.kind, n.id, tick))
	return call
}

// P3.1 to P3.5: rows of calls, the same ones each time, against the model: with few bells and with all, with few ticks and with many, some of which may not be.
func TestRowsOfCalls(t *testing.T) {
	edges := slices.Concat([]int{0, 1, 2, most - 1, most}, noTicks)
	for seed := range 60 {
		random := rand.New(rand.NewSource(int64(seed)))
		b, m := bell.New(), model{}
		for range 400 {
			n := name{random.Intn(kinds), random.Intn(3)}
			tick := random.Intn(7) - 1
			switch seed % 3 {
			case 1:
				n = name{random.Intn(kinds+2) - 1, random.Intn(ids+2) - 1}
				tick = edges[random.Intn(len(edges))]
			case 2:
				n.id = random.Intn(ids)
				tick = random.Intn(most + 1)
			}
			call := step(t, random, b, m, n, tick)
			sameAll(t, fmt.Sprintf("row %d: %s", seed, call), b, m)
			if t.Failed() {
				return
			}
		}
		sameBells(t, "Due at the end", b.Due(math.MaxInt), m.order())
	}
}
