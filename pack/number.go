package pack

import "escapement/api"

const (
	long     = 255      // the byte ahead of a number that is no byte of its own
	longSize = 8        // how many bytes stand behind it
	below    = long - 1 // these are of what is above it
)

// isNumber tells whether n has bytes.
func isNumber(n int) bool {
	return n >= 0 && n <= api.MaxNumber
}

// sizeOf is how many bytes a number has.
func sizeOf(n int) int {
	if n < long {
		return 1
	}
	return 1 + longSize
}

// appendNumber appends a number's bytes.
func appendNumber(b []byte, n int) []byte {
	if n < long {
		return append(b, byte(n))
	}
	b = append(b, long)
	above := uint64(n - below)
	for shift := 8 * (longSize - 1); shift >= 0; shift -= 8 {
		b = append(b, byte(above>>shift))
	}
	return b
}

// cutNumber is the number, most at most, whose bytes come first, and what is behind these.
func cutNumber(b []byte, most int) (n int, left []byte, e api.Errno) {
	n, left, e = cutAnyNumber(b)
	if e != api.OK {
		return 0, nil, e
	}
	if n > most {
		return 0, nil, api.ErrLimit
	}
	return n, left, api.OK
}

// cutAnyNumber is cutNumber, however great the number is.
func cutAnyNumber(b []byte) (n int, left []byte, e api.Errno) {
	if len(b) == 0 {
		return 0, nil, api.ErrTrunc
	}
	first, b := b[0], b[1:]
	if first < long {
		return int(first), b, api.OK
	}
	if len(b) < longSize {
		return 0, nil, api.ErrTrunc
	}
	above := uint64(0)
	for _, x := range b[:longSize] {
		above = above<<8 | uint64(x)
	}
	// With 0 this would be a second way to write a number that is a byte of its own.
	if above == 0 || above > api.MaxNumber-below {
		return 0, nil, api.ErrSyntax
	}
	return below + int(above), b[longSize:], api.OK
}

// cutText is the text, of most bytes at most, whose bytes come first, and what is behind these.
func cutText(b []byte, most int) (s string, left []byte, e api.Errno) {
	n, left, e := cutNumber(b, most)
	if e != api.OK {
		return "", nil, e
	}
	if n > len(left) {
		return "", nil, api.ErrTrunc
	}
	return string(left[:n]), left[n:], api.OK
}
