package pack

import (
	"slices"

	"escapement/api"
)

// Reader reads bytes. A zero one has none.
type Reader struct {
	left []byte    // none, if there was an error
	err  api.Errno // the first one
}

// Read is a reader of bytes, from their beginning on.
func Read(b []byte) *Reader {
	return &Reader{left: slices.Clone(b)}
}

// Num reads a number, most at most.
func (r *Reader) Num(most int) (n int) {
	r.step(func() (e api.Errno) {
		n, r.left, e = cutNumber(r.left, most)
		return e
	})
	return n
}

// Text reads a text, of most bytes at most.
func (r *Reader) Text(most int) (s string) {
	r.step(func() (e api.Errno) {
		s, r.left, e = cutText(r.left, most)
		return e
	})
	return s
}

// Left is how many bytes are left.
func (r *Reader) Left() int {
	if r == nil {
		return 0
	}
	return len(r.left)
}

// Err is what was wrong first.
func (r *Reader) Err() api.Errno {
	if r == nil {
		return api.OK
	}
	return r.err
}

// End is what was wrong first, or that bytes are left.
func (r *Reader) End() api.Errno {
	if r.Left() > 0 {
		return api.ErrSyntax
	}
	return r.Err()
}

// step does a reading, whose error stays: behind it no reading is done any more.
func (r *Reader) step(reading func() api.Errno) {
	if r == nil || r.err != api.OK {
		return
	}
	r.err = reading()
}
