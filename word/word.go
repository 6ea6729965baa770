// Package word is layer 1: see ../../shared/doc/01-word.md.
package word

import "bollard/api"

const (
	maxWidth = 4
	sealLen  = 4 // the sum's bytes at the end of what is sealed
	modulus  = 65521
)

// Get is the number in so many bytes of b, the lowest first.
func Get(b []byte, at, width int) (int, api.Errno) {
	if why := span(b, at, width); why != api.OK {
		return 0, why
	}
	n := 0
	for i := range width {
		n |= int(b[at+i]) << (8 * i)
	}
	return n, api.OK
}

// Put is b with a number in so many of its bytes.
func Put(b []byte, at, width, n int) ([]byte, api.Errno) {
	why := span(b, at, width)
	if why == api.ErrArg || !fits(n, width) {
		return nil, api.ErrArg
	}
	if why != api.OK {
		return nil, why
	}
	out := clone(b)
	for i := range width {
		out[at+i] = byte(n >> (8 * i))
	}
	return out, api.OK
}

// span tells what is wrong with a number's place. The place is held against
// what is left, not its end against the length: a huge at would wrap round.
func span(b []byte, at, width int) api.Errno {
	switch {
	case width < 1 || width > maxWidth || at < 0:
		return api.ErrArg
	case at > len(b)-width:
		return api.ErrPast
	}
	return api.OK
}

// fits is asked only of widths that may be.
func fits(n, width int) bool {
	return n >= 0 && n>>(8*width) == 0
}

// clone has no spare room that an append could reach.
func clone(b []byte) []byte {
	out := make([]byte, len(b))
	copy(out, b)
	return out
}

// Sum is the check sum of bytes.
func Sum(b []byte) int {
	low, high := 1, 0
	for _, x := range b {
		low = (low + int(x)) % modulus
		high = (high + low) % modulus
	}
	return high<<16 + low
}

// Seal is b with the sum of all but its last four bytes in these.
func Seal(b []byte) ([]byte, api.Errno) {
	body := len(b) - sealLen
	if body < 0 {
		return nil, api.ErrPast
	}
	return Put(b, body, sealLen, Sum(b[:body]))
}

// Sealed tells whether the last four bytes are the sum of those ahead.
func Sealed(b []byte) bool {
	body := len(b) - sealLen
	if body < 0 {
		return false
	}
	n, why := Get(b, body, sealLen)
	return why == api.OK && n == Sum(b[:body])
}
