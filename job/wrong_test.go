package job_test

import (
	"math"
	"strings"
	"testing"

	"escapement/api"
	"escapement/job"
)

// wantNothing fails the test unless there is nothing of a job that is none.
func wantNothing(t *testing.T, j *job.Job) {
	t.Helper()
	if op, is := j.Next(); op != (api.Op{}) || is {
		t.Errorf("Next(): %v, %t", op, is)
	}
	if j.Begun() || j.Done() {
		t.Errorf("Begun() %t, Done() %t", j.Begun(), j.Done())
	}
	wantIn(t, j, 0, 0)
	wantNumber(t, "Deadline()", j.Deadline(), 0)
	wantNumber(t, "Ran()", j.Ran(), 0)
	wantNumber(t, "Takes()", j.Takes(), 0)
	for _, now := range []int{0, 1, -1, 64, horizon, horizon + 1, math.MinInt, math.MaxInt} {
		wantNumber(t, "Fault", j.Fault(now), 0)
	}
}

// Of a job that is nil, or a zero one, there is nothing, whatever is asked; and it stays one.
func TestNone(t *testing.T) {
	for _, j := range []*job.Job{nil, {}, new(job.Job)} {
		for range 3 {
			wantNothing(t, j)
			wantErrno(t, "Did()", j.Did(), api.ErrNil)
			wantErrno(t, "Run()", j.Run(), api.ErrNil)
			wantErrno(t, "Leave()", j.Leave(), api.ErrNil)
			for _, section := range sections {
				wantErrno(t, "Enter", j.Enter(section), api.ErrNil)
			}
		}
		wantNothing(t, j)
	}
}

// P17.1: what is wrong is told in order: the task, a now that is below 0, one behind the horizon, too many acts, one that may not be.
func TestOrderOfErrors(t *testing.T) {
	rows := map[api.Errno][][]api.Op{
		api.OK:       {nil, {run(1)}, times(lock(0), 32)},
		api.ErrLimit: {times(run(1), 33), times(run(0), 33), times(api.Op{}, 1000)},
		api.ErrArg:   {{run(0)}, {run(1), lock(8)}, {{Kind: 9}}, append(times(run(1), 31), run(65)), {{Kind: api.OpSend, S: strings.Repeat("s", 17)}}},
	}
	tasks := map[api.Errno][]api.Task{
		api.OK:     {taskOf(1, 1, 1), taskOf(64, 64, 64), taskOf(10, 8, 3)},
		api.ErrArg: {{}, taskOf(0, 1, 1), taskOf(65, 1, 1), taskOf(5, 6, 1), taskOf(5, 0, 1), taskOf(5, 5, 0), taskOf(5, 4, 5), taskOf(-1, -1, -1)},
	}
	nows := map[api.Errno][]int{
		api.OK:      {0, 5, horizon},
		api.ErrArg:  {-1, -horizon, math.MinInt},
		api.ErrOver: {horizon + 1, math.MaxInt},
	}
	for ofTask, tasksSo := range tasks {
		for ofNow, nowsSo := range nows {
			for ofRow, rowsSo := range rows {
				want := api.OK
				for _, e := range []api.Errno{ofTask, ofNow, ofRow} {
					if want == api.OK {
						want = e
					}
				}
				wantEach(t, tasksSo, rowsSo, nowsSo, want)
			}
		}
	}
}

// wantEach fails the test unless New answers that error of each of these.
func wantEach(t *testing.T, tasks []api.Task, rows [][]api.Op, nows []int, want api.Errno) {
	t.Helper()
	for _, task := range tasks {
		for _, ops := range rows {
			for _, now := range nows {
				if want == api.OK {
					made(t, task, ops, now)
				} else {
					wantNoJob(t, task, ops, now, want)
				}
			}
		}
	}
}
