package room

import (
	"escapement/api"
	"escapement/job"
)

// Lock locks something of the partition.
func (r *Room) Lock(task, resource int) api.Errno {
	section, e := r.section(task)
	if e != api.OK {
		return e
	}
	if isShared(section) {
		return api.ErrNest
	}
	if e := r.Stack.Lock(task, resource); e != api.OK || section != api.SectionNone {
		return e
	}
	return r.enter(task, api.SectionLocal)
}

// Unlock unlocks what a job has locked last.
func (r *Room) Unlock(task int) api.Errno {
	if e := r.lacksJob(task); e != api.OK {
		return e
	}
	if _, e := r.Stack.Unlock(task); e != api.OK || len(r.Held(task)) > 0 {
		return e
	}
	return r.leave(task)
}

// Ask asks for what partitions share.
func (r *Room) Ask(task int) api.Errno {
	section, e := r.section(task)
	switch {
	case e != api.OK:
		return e
	case r.tasks[task].Global == 0:
		return api.ErrUse
	case section == api.SectionWait:
		return api.OK
	}
	// The job tells by its own ErrNest whether it is in another section.
	return r.enter(task, api.SectionWait)
}

// Hold has what a job waits for.
func (r *Room) Hold(task int) api.Errno {
	section, e := r.section(task)
	switch {
	case e != api.OK:
		return e
	case section != api.SectionWait:
		return api.ErrFree
	}
	return r.enter(task, api.SectionGlobal)
}

// Give gives it back.
func (r *Room) Give(task int) api.Errno {
	section, e := r.section(task)
	switch {
	case e != api.OK:
		return e
	case section != api.SectionGlobal:
		return api.ErrFree
	}
	return r.leave(task)
}

// Sole is the task that has, or waits for, what partitions share, and which of these.
func (r *Room) Sole() (task, section int, is bool) {
	for task := range api.MaxTasks {
		if section, _ := r.section(task); isShared(section) {
			return task, section, true
		}
	}
	return 0, 0, false
}

// isShared tells whether a section is one of what partitions share.
func isShared(section int) bool {
	return section == api.SectionGlobal || section == api.SectionWait
}

// enter lets a task's job be in a section.
func (r *Room) enter(task, section int) api.Errno {
	return r.does(task, with((*job.Job).Enter, section))
}

// leave lets a task's job be in none.
func (r *Room) leave(task int) api.Errno {
	return r.does(task, (*job.Job).Leave)
}
