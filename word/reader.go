package word

import "bollard/api"

// Reader goes through bytes, until one of its calls has an error.
type Reader struct {
	rest  []byte
	first api.Errno
	made  bool // tells an empty reader from a plain Reader{}
}

// Over is one at the beginning of bytes.
func Over(b []byte) *Reader {
	return &Reader{rest: clone(b), made: true}
}

// Take is the number in the next so many bytes.
func (r *Reader) Take(width int) int {
	n := 0
	r.attempt(func() { n = r.number(width) })
	return n
}

// Text is the next n bytes.
func (r *Reader) Text(n int) string {
	text := ""
	r.attempt(func() { text = string(r.next(n)) })
	return text
}

// Skip goes past the next n bytes.
func (r *Reader) Skip(n int) {
	r.attempt(func() { r.next(n) })
}

// Left is how many bytes are left.
func (r *Reader) Left() int {
	if r == nil {
		return 0
	}
	return len(r.rest)
}

// Err is the first error there was.
func (r *Reader) Err() api.Errno {
	if r == nil || !r.made {
		return api.ErrNil
	}
	return r.first
}

// attempt is the face at which giving up is caught: a reader that has given
// up, or that no call made, does not even begin.
func (r *Reader) attempt(step func()) {
	if r.Err() != api.OK {
		return
	}
	defer func() {
		if why, gaveUp := recover().(api.Errno); gaveUp {
			r.first = why
		}
	}()
	step()
}

// number gives up where Get refuses.
func (r *Reader) number(width int) int {
	n, why := Get(r.rest, 0, width)
	if why != api.OK {
		panic(why)
	}
	r.rest = r.rest[width:]
	return n
}

// next gives up where there are not n bytes.
func (r *Reader) next(n int) []byte {
	if n < 0 {
		panic(api.ErrArg)
	}
	if n > len(r.rest) {
		panic(api.ErrPast)
	}
	gone := r.rest[:n]
	r.rest = r.rest[n:]
	return gone
}
