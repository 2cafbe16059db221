package claim

import (
	"slices"

	"escapement/api"
)

// line is partitions, each once, in the order in which they came.
type line struct {
	parts  [api.MaxParts]int
	length int  // so many of parts stand there
	held   bool // by the first one: nobody else can hold it
}

// all is all that stand there.
func (l *line) all() []int {
	return slices.Clone(l.parts[:l.length])
}

// place tells where a partition stands, if it does: the first one at 0.
func (l *line) place(part int) (place int, is bool) {
	for i := range l.length {
		if l.parts[i] == part {
			return i, true
		}
	}
	return 0, false
}

// isFirst tells whether a partition is the first one.
func (l *line) isFirst(part int) bool {
	place, is := l.place(part)
	return is && place == 0
}

// isHeldBy tells whether a partition is the first one, and holds what the line is for.
func (l *line) isHeldBy(part int) bool {
	return l.held && l.isFirst(part)
}

// enter lets a partition stand behind all others, or where it does already.
func (l *line) enter(part int) {
	if _, is := l.place(part); is {
		return
	}
	// There is room: each partition stands there once.
	l.parts[l.length] = part
	l.length++
}

// leave lets a partition stand there no more.
func (l *line) leave(part int) {
	place, is := l.place(part)
	if !is {
		return
	}
	if place == 0 {
		l.held = false
	}
	l.length = len(slices.Delete(l.parts[:l.length], place, place+1))
}
