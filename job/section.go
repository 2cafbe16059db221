package job

import "escapement/api"

// mayEnter is the error of entering a section.
func (j *Job) mayEnter(section int) api.Errno {
	switch {
	case j.isNone():
		return api.ErrNil
	case section < api.SectionLocal || section > api.SectionWait:
		return api.ErrArg
	case j.section != api.SectionNone && !j.wouldWaitNoMore(section):
		return api.ErrNest
	case j.wouldTake(section) && j.takes >= j.task.Locks:
		return api.ErrBound
	}
	return api.OK
}

// wouldTake tells whether a section that is entered is of what partitions share, and it does not wait for that already.
func (j *Job) wouldTake(section int) bool {
	return j.section == api.SectionNone && section != api.SectionLocal
}

// wouldWaitNoMore tells whether it waits for what it would have in a section.
func (j *Job) wouldWaitNoMore(section int) bool {
	return j.section == api.SectionWait && section == api.SectionGlobal
}

// goTo lets it be in a section, or in none, for no tick so far.
func (j *Job) goTo(section int) {
	j.section, j.inside = section, 0
}

// isInTooLong tells whether it has been in its section for as long as it may, and does not go out of it.
func (j *Job) isInTooLong(next api.Op) bool {
	switch j.section {
	case api.SectionGlobal:
		return j.inside >= j.task.Long
	case api.SectionLocal:
		// It may unlock what it has, as long as it does not run.
		return j.inside >= j.task.Local && next.Kind == api.OpRun
	}
	return false
}
