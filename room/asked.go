package room

import (
	"cmp"

	"escapement/api"
	"escapement/job"
	"escapement/level"
)

// isNone tells whether a room is nil, or a zero one.
func (r *Room) isNone() bool {
	return r == nil || r.Stack == nil
}

// lacksTask is the error of a task that there is not.
func (r *Room) lacksTask(task int) api.Errno {
	switch {
	case r.isNone():
		return api.ErrNil
	case task < 0 || task >= len(r.tasks):
		return api.ErrRange
	}
	return api.OK
}

// lacksJob is the error of a task that there is not, or that has no job.
func (r *Room) lacksJob(task int) api.Errno {
	if e := r.lacksTask(task); e != api.OK {
		return e
	}
	if r.jobs[task] == nil {
		return api.ErrState
	}
	return api.OK
}

// asks is a job's method, to be asked of a task of a room: the closure looks whether that has a job.
func asks[A any](method func(*job.Job) A) func(r *Room, task int) (A, api.Errno) {
	return func(r *Room, task int) (answer A, e api.Errno) {
		if e = r.lacksJob(task); e != api.OK {
			return answer, e
		}
		return method(r.jobs[task]), api.OK
	}
}

// with is a job's method that is told a number.
func with[A any](method func(*job.Job, int) A, number int) func(*job.Job) A {
	return func(j *job.Job) A { return method(j, number) }
}

// pair is two answers.
type pair[A, B any] struct {
	first  A
	second B
}

// both is a job's method that has two answers.
func both[A, B any](method func(*job.Job) (A, B)) func(*job.Job) pair[A, B] {
	return func(j *job.Job) pair[A, B] {
		first, second := method(j)
		return pair[A, B]{first, second}
	}
}

// does lets a task's job do something: the error is the job's, or tells that there is none.
func (r *Room) does(task int, method func(*job.Job) api.Errno) api.Errno {
	return cmp.Or(asks(method)(r, task))
}

// section is that of a task's job.
func (r *Room) section(task int) (int, api.Errno) {
	in, e := asks(both((*job.Job).In))(r, task)
	return in.first, e
}

// mayGoOn tells whether a task's job need not wait for what is locked.
func (r *Room) mayGoOn(task int) bool {
	begun, _ := asks((*job.Job).Begun)(r, task)
	return begun || level.Level(r.tasks, task) > r.Ceiling()
}
