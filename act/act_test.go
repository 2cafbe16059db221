package act_test

import (
	"math"
	"math/rand"
	"slices"
	"strings"
	"testing"

	"escapement/act"
	"escapement/api"
)

// wantErrno fails the test unless a call answers that error.
func wantErrno(t *testing.T, call string, got, want api.Errno) {
	t.Helper()
	if got != want {
		t.Errorf("%s: %d, not %d", call, got, want)
	}
}

// wantActs fails the test unless a call answers those acts.
func wantActs(t *testing.T, call string, got []api.Op, want ...api.Op) {
	t.Helper()
	if !slices.Equal(got, want) {
		t.Errorf("%s: %v, not %v", call, got, want)
	}
}

// wantNext fails the test unless that act is next.
func wantNext(t *testing.T, r *act.Row, want api.Op) {
	t.Helper()
	if got, is := r.Next(); got != want || !is {
		t.Errorf("Next(): %v, %t, not %v", got, is, want)
	}
}

// wantLeft fails the test unless so many ticks are left.
func wantLeft(t *testing.T, r *act.Row, want int) {
	t.Helper()
	if got := r.Left(); got != want {
		t.Errorf("Left(): %d, not %d", got, want)
	}
}

// wantNothing fails the test unless nothing is left of a row, which is done, or, if it is none, is not.
func wantNothing(t *testing.T, r *act.Row, done bool) {
	t.Helper()
	if op, is := r.Next(); op != (api.Op{}) || is {
		t.Errorf("Next(): %v, %t", op, is)
	}
	if r.Done() != done {
		t.Errorf("Done(): %t", r.Done())
	}
	wantLeft(t, r, 0)
	wantActs(t, "Rest()", r.Rest())
}

// P16.1 to P16.3: the chapter's examples.
func TestExamples(t *testing.T) {
	r := made(t, []api.Op{run(2), lock(3), run(1)})
	wantNext(t, r, run(2))
	wantLeft(t, r, 3)
	wantErrno(t, "Did()", r.Did(), api.ErrState)
	wantErrno(t, "Ran()", r.Ran(), api.OK)
	wantNext(t, r, run(1))

	wantErrno(t, "Ran()", r.Ran(), api.OK)
	wantNext(t, r, lock(3))
	wantErrno(t, "Ran()", r.Ran(), api.ErrState)
	wantErrno(t, "Did()", r.Did(), api.OK)
	wantLeft(t, r, 1)
	if r.Done() {
		t.Error("Done(): true")
	}

	_, e := act.New([]api.Op{run(0)})
	wantErrno(t, "New of run 0", e, api.ErrArg)
	_, e = act.New(times(run(1), 33))
	wantErrno(t, "New of 33 acts", e, api.ErrLimit)
	wantNothing(t, made(t, nil), true)
}

// P16.1: of each kind N at each end of what is told, one below and one above it, with a text of each length about the edges.
func TestCheck(t *testing.T) {
	for _, x := range []struct{ kind, least, most, bytes int }{
		{api.OpRun, 1, 64, 0}, {api.OpLock, 0, 7, 0}, {api.OpUnlock, 0, 0, 0}, {api.OpTake, 0, 0, 0},
		{api.OpGive, 0, 0, 0}, {api.OpSend, 0, 7, 16}, {api.OpRecv, 0, 7, 0}, {api.OpLater, 1, 64, 0},
	} {
		for n := x.least - 2; n <= x.most+2; n++ {
			for bytes := range 20 {
				want := api.OK
				if n < x.least || n > x.most || bytes > x.bytes {
					want = api.ErrArg
				}
				op := api.Op{Kind: x.kind, N: n, S: strings.Repeat("x", bytes)}
				if got := act.Check(op); got != want {
					t.Errorf("Check(%v): %d, not %d", op, got, want)
				}
			}
		}
		wantErrno(t, "Check of the least int", act.Check(api.Op{Kind: x.kind, N: math.MinInt}), api.ErrArg)
		wantErrno(t, "Check of the greatest int", act.Check(api.Op{Kind: x.kind, N: math.MaxInt}), api.ErrArg)
	}
}

// P16.1: kinds that there are not, among them 0, 9, the greatest and the least int, whatever is told of them.
func TestNoKind(t *testing.T) {
	for _, kind := range kinds {
		if 1 <= kind && kind <= api.LastOp {
			continue
		}
		for _, n := range numbers {
			for _, s := range texts {
				wantErrno(t, "Check", act.Check(api.Op{Kind: kind, N: n, S: s}), api.ErrArg)
			}
		}
	}
	for kind := -300; kind <= 300; kind++ {
		want := api.ErrArg
		if 1 <= kind && kind <= api.LastOp {
			want = api.OK
		}
		n := 0
		if kind == api.OpRun || kind == api.OpLater {
			n = 1
		}
		wantErrno(t, "Check", act.Check(api.Op{Kind: kind, N: n}), want)
	}
}

// P16.1: Check, and New of that act alone, of each act of many numbers and texts, which may be or not.
func TestCheckAndNew(t *testing.T) {
	for _, op := range acts(true) {
		wantErrno(t, "Check", act.Check(op), api.OK)
		b := bothOf(t, []api.Op{op})
		wantNext(t, b.r, op)
		wantActs(t, "Rest()", b.r.Rest(), op)
		b.end()
	}
	for _, op := range acts(false) {
		wantErrno(t, "Check", act.Check(op), api.ErrArg)
		r, e := act.New([]api.Op{op})
		if r != nil || e != api.ErrArg {
			t.Errorf("New(%v): %v, %d", op, r, e)
		}
	}
}

// P16.1, P16.3: rows of no act, whether the list is nil or not: they are done, and stay so.
func TestNoAct(t *testing.T) {
	for _, ops := range [][]api.Op{nil, {}, make([]api.Op, 0, 5), times(run(1), 3)[3:], {}} {
		b := bothOf(t, ops)
		for range 3 {
			wantNothing(t, b.r, true)
			wantErrno(t, "Did()", b.did(), api.ErrState)
			wantErrno(t, "Ran()", b.ran(), api.ErrState)
		}
	}
}

// P16.1 to P16.3: rows of each length up to 32, of one act again and again, and of all kinds by turns.
func TestLengths(t *testing.T) {
	all := []api.Op{run(64), lock(7), {Kind: api.OpUnlock}, {Kind: api.OpTake}, {Kind: api.OpGive}, send(7, "0123456789abcdef"), {Kind: api.OpRecv, N: 7}, {Kind: api.OpLater, N: 64}}
	for many := range api.MaxOps + 1 {
		for i, op := range all {
			bothOf(t, times(op, many)).end()
			bothOf(t, slices.Concat(all[i:], all, all, all, all)[:many]).end()
		}
	}
	wantLeft(t, made(t, times(run(64), 32)), 2048)
}

// P16.2, P16.3: an OpRun of one tick, of 64, and of each number between.
func TestRun(t *testing.T) {
	for n := 1; n <= api.MaxTime; n++ {
		b := bothOf(t, []api.Op{run(n), lock(5)})
		for left := n; left > 0; left-- {
			wantNext(t, b.r, run(left))
			wantLeft(t, b.r, left)
			wantActs(t, "Rest()", b.r.Rest(), run(left), lock(5))
			wantErrno(t, "Did()", b.did(), api.ErrState)
			wantErrno(t, "Ran()", b.ran(), api.OK)
		}
		wantNext(t, b.r, lock(5))
		wantErrno(t, "Ran()", b.ran(), api.ErrState)
		wantErrno(t, "Did()", b.did(), api.OK)
		wantNothing(t, b.r, true)
	}
}

// P16.2, P16.3: several OpRun behind each other stay apart: each has its own ticks.
func TestRunBehindRun(t *testing.T) {
	b := bothOf(t, []api.Op{run(2), run(3), run(1), run(1)})
	for _, want := range []int{2, 1, 3, 2, 1, 1, 1} {
		wantNext(t, b.r, run(want))
		wantErrno(t, "Did()", b.did(), api.ErrState)
		wantErrno(t, "Ran()", b.ran(), api.OK)
	}
	wantNothing(t, b.r, true)

	b = bothOf(t, []api.Op{run(1), run(64), lock(0), run(1), run(2)}).goes(1)
	wantActs(t, "Rest()", b.r.Rest(), run(64), lock(0), run(1), run(2))
	b.goes(1)
	wantActs(t, "Rest()", b.r.Rest(), run(63), lock(0), run(1), run(2))
	b.goes(64)
	wantActs(t, "Rest()", b.r.Rest(), run(1), run(2))
	b.end()
}

// P16.2: other acts than OpRun are done once each, whatever their N: that of an OpLater is no count of ticks to run.
func TestOtherActs(t *testing.T) {
	ops := []api.Op{{Kind: api.OpLater, N: 64}, {Kind: api.OpLater, N: 1}, send(2, "\x00\xffa"), send(2, ""), {Kind: api.OpRecv, N: 1}, {Kind: api.OpTake}, {Kind: api.OpGive}, lock(1), lock(1), {Kind: api.OpUnlock}}
	b := bothOf(t, ops)
	for i, op := range ops {
		wantNext(t, b.r, op)
		wantLeft(t, b.r, 0)
		wantActs(t, "Rest()", b.r.Rest(), ops[i:]...)
		wantErrno(t, "Ran()", b.ran(), api.ErrState)
		wantErrno(t, "Did()", b.did(), api.OK)
	}
	wantNothing(t, b.r, true)
}

// P16.4: what is handed in, with its spare room, is only read, and not kept: written over behind New, it changes nothing.
func TestHandedIn(t *testing.T) {
	random := rand.New(rand.NewSource(164))
	for many := range api.MaxOps + 1 {
		for _, spare := range []int{0, 1, 40} {
			ops := anyRow(random, many, 2)
			whole := slices.Concat(ops, times(lock(6), spare))
			handed := whole[:many]
			b := &both{t: t, r: made(t, handed), m: modelOf(ops)}
			wantActs(t, "New", whole, slices.Concat(ops, times(lock(6), spare))...)
			for i := range whole {
				whole[i] = send(3, "other")
			}
			b.same()
			b.end()
			wantActs(t, "Did and Ran", whole, times(send(3, "other"), many+spare)...)
		}
	}
}

// P16.4: two rows of the same list are apart.
func TestApart(t *testing.T) {
	ops := []api.Op{run(3), lock(1), run(2)}
	first, other := bothOf(t, ops), bothOf(t, ops)
	first.goes(5)
	other.same()
	other.goes(1)
	first.same()
	wantActs(t, "both", ops, run(3), lock(1), run(2))
	first.end()
	other.end()
}

// P16.4: what Rest answers is new memory, its spare room, too: written over, it changes neither the row nor another answer.
func TestRestIsNew(t *testing.T) {
	random := rand.New(rand.NewSource(1643))
	for many := range api.MaxOps + 1 {
		b := bothOf(t, anyRow(random, many, 2))
		for len(b.m.steps) > 0 {
			want := b.m.rest()
			kept, spoilt := b.r.Rest(), b.r.Rest()
			spoilt = spoilt[:cap(spoilt)]
			for i := range spoilt {
				spoilt[i] = send(5, "spoilt")
			}
			b.same()
			wantActs(t, "Rest()", kept, want...)
			b.goes(1)
			wantActs(t, "Rest() ahead of it", kept, want...)
			b.called = ""
		}
		b.end()
	}
}

// P16.4: what is answered ahead of a call stays as it was.
func TestNextStays(t *testing.T) {
	b := bothOf(t, []api.Op{run(3), send(1, "ab")})
	first, _ := b.r.Next()
	rest := b.r.Rest()
	b.end()
	if first != run(3) {
		t.Errorf("Next() ahead of it: %v", first)
	}
	wantActs(t, "Rest() ahead of it", rest, run(3), send(1, "ab"))
}

// P16.5: a row is done behind as many Ran as its ticks were, and as many Did as it has other acts, and not sooner, whatever comes when: told by the answers alone.
func TestDoneBehindAll(t *testing.T) {
	random := rand.New(rand.NewSource(165))
	for many := range api.MaxOps + 1 {
		for others := 1; others <= 8; others++ {
			ops := anyRow(random, many, others)
			ticks, other := 0, 0
			for _, op := range ops {
				if op.Kind == api.OpRun {
					ticks += op.N
				} else {
					other++
				}
			}
			r := made(t, ops)
			for ticks+other > 0 {
				if r.Done() {
					t.Fatalf("%v: done with %d Ran and %d Did to come", ops, ticks, other)
				}
				switch {
				case random.Intn(3) == 0 && r.Did() == api.OK:
					other--
				case random.Intn(3) > 0 && r.Ran() == api.OK:
					ticks--
				}
			}
			if ticks != 0 || other != 0 || !r.Done() {
				t.Fatalf("%v: Done() %t with %d Ran and %d Did to come", ops, r.Done(), ticks, other)
			}
			wantNothing(t, r, true)
		}
	}
}

// P16.6: each Ran makes Left one less, and Did leaves it, and so does each that answers an error.
func TestLeft(t *testing.T) {
	random := rand.New(rand.NewSource(166))
	for many := range api.MaxOps + 1 {
		r := made(t, anyRow(random, many, 1+many%5))
		for !r.Done() {
			left := r.Left()
			if random.Intn(2) == 0 {
				r.Did()
			} else if r.Ran() == api.OK {
				left--
			}
			wantLeft(t, r, left)
		}
		wantLeft(t, r, 0)
	}
}
