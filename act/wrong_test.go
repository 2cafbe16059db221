package act_test

import (
	"slices"
	"strings"
	"testing"

	"escapement/act"
	"escapement/api"
)

// Of a row that is nil, or a zero one, there is nothing, whatever is asked, and it is not done; and it stays one.
func TestNone(t *testing.T) {
	for _, r := range []*act.Row{nil, {}, new(act.Row)} {
		for range 3 {
			wantErrno(t, "Did()", r.Did(), api.ErrNil)
			wantErrno(t, "Ran()", r.Ran(), api.ErrNil)
			wantNothing(t, r, false)
		}
	}
}

// wrong is acts of each kind that may not be, each by one thing that is told of it.
func wrong() []api.Op {
	return []api.Op{
		{}, {Kind: 9}, {Kind: -1}, {Kind: 9, N: 1}, {Kind: 0, N: 1},
		run(0), run(65), run(-1), {Kind: api.OpRun, N: 1, S: "a"},
		lock(8), lock(-1), {Kind: api.OpLock, S: "a"},
		{Kind: api.OpUnlock, N: 1}, {Kind: api.OpUnlock, N: -1}, {Kind: api.OpUnlock, S: "a"},
		{Kind: api.OpTake, N: 1}, {Kind: api.OpTake, N: -1}, {Kind: api.OpTake, S: "a"},
		{Kind: api.OpGive, N: 1}, {Kind: api.OpGive, N: -1}, {Kind: api.OpGive, S: "a"},
		send(8, ""), send(-1, "a"), send(0, strings.Repeat("a", 17)),
		{Kind: api.OpRecv, N: 8}, {Kind: api.OpRecv, N: -1}, {Kind: api.OpRecv, S: "a"},
		{Kind: api.OpLater}, {Kind: api.OpLater, N: 65}, {Kind: api.OpLater, N: -1}, {Kind: api.OpLater, N: 1, S: "a"},
	}
}

// wantNoRow fails the test unless of acts there is no row, but that error.
func wantNoRow(t *testing.T, ops []api.Op, want api.Errno) {
	t.Helper()
	as := slices.Clone(ops)
	r, e := act.New(ops)
	if r != nil || e != want {
		t.Errorf("New of %d acts: %v, %d, not %d", len(ops), r, e, want)
	}
	wantActs(t, "New", ops, as...)
	// Nobody can do anything with what is answered.
	wantErrno(t, "Did()", r.Did(), api.ErrNil)
	wantErrno(t, "Ran()", r.Ran(), api.ErrNil)
	wantNothing(t, r, false)
}

// P16.1: above 32 acts there is no row, whatever they are: that is told ahead of one that may not be.
func TestTooMany(t *testing.T) {
	for _, many := range []int{33, 34, 64, 256, 1000} {
		for _, op := range []api.Op{run(1), lock(0), send(0, "a")} {
			wantNoRow(t, times(op, many), api.ErrLimit)
		}
		for _, op := range wrong() {
			wantNoRow(t, times(op, many), api.ErrLimit)
			for _, place := range []int{0, 1, 31, 32, many - 1} {
				ops := times(run(1), many)
				ops[place] = op
				wantNoRow(t, ops, api.ErrLimit)
			}
		}
	}
	// 33 of which 32 are handed in are 32.
	bothOf(t, times(run(2), 33)[:32]).end()
	bothOf(t, times(run(2), 33)[1:]).end()
}

// P16.1: of acts of which one may not be, wherever it stands, there is no row, in rows of each length up to 32.
func TestOneMayNotBe(t *testing.T) {
	for many := 1; many <= api.MaxOps; many++ {
		for _, op := range wrong() {
			for place := range many {
				ops := times(lock(2), many)
				ops[place] = op
				wantNoRow(t, ops, api.ErrArg)
			}
			wantNoRow(t, times(op, many), api.ErrArg)
		}
	}
}

// P16.1: acts that may be stand beside each other as they come: a row asks nothing of several of them.
func TestAnyOrder(t *testing.T) {
	for _, kind := range []int{api.OpUnlock, api.OpGive, api.OpTake, api.OpLock, api.OpRecv, api.OpSend} {
		bothOf(t, times(api.Op{Kind: kind}, 32)).end()
		bothOf(t, []api.Op{{Kind: kind}, run(1), {Kind: kind}, {Kind: kind}}).end()
	}
}

// P16.2, P16.4: a Did at an OpRun, a Ran at another act, and both of a row that is done, are answered ErrState, however often, and change nothing.
func TestErrorChangesNothing(t *testing.T) {
	rows := [][]api.Op{
		nil, {run(1)}, {run(64)}, {lock(0)}, {send(7, "0123456789abcdef")}, {run(1), run(1)}, {run(2), lock(3), run(1)},
		{lock(1), run(3), {Kind: api.OpUnlock}}, {{Kind: api.OpLater, N: 5}, run(2), {Kind: api.OpTake}, run(1), {Kind: api.OpGive}},
		times(run(2), 32), times(lock(4), 32),
	}
	for _, ops := range rows {
		for at := range len(modelOf(ops).steps) + 1 {
			b := bothOf(t, ops).goes(at)
			for range 4 {
				op, is := b.r.Next()
				if !is || op.Kind == api.OpRun {
					wantErrno(t, "Did()", b.did(), api.ErrState)
				}
				if !is || op.Kind != api.OpRun {
					wantErrno(t, "Ran()", b.ran(), api.ErrState)
				}
			}
			b.end()
		}
	}
}
