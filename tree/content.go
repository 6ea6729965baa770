package tree

import (
	"maps"

	"bollard/api"
)

type piece [api.Size]byte

// content is a file's bytes, in pieces. One that has noughts alone, or lies
// past the end, is not kept, nor is any byte past the end but a nought: so files
// that have few bytes but noughts take little memory, and the same bytes have
// the same pieces.
type content struct {
	size   int
	pieces map[int]piece
}

func newContent() content {
	return content{pieces: map[int]piece{}}
}

func (c *content) copy() content {
	return content{size: c.size, pieces: maps.Clone(c.pieces)}
}

func (c *content) same(o *content) bool {
	return c.size == o.size && maps.Equal(c.pieces, o.pieces)
}

// read is n bytes at most, from a place on that may lie past the end.
func (c *content) read(off, n int) []byte {
	out := make([]byte, min(n, max(c.size-off, 0)))
	for done := 0; done < len(out); {
		p := c.pieces[(off+done)/api.Size]
		done += copy(out[done:], p[(off+done)%api.Size:])
	}
	return out
}

// write grows it only if there are bytes.
func (c *content) write(off int, b []byte) {
	for done := 0; done < len(b); {
		at := (off + done) / api.Size
		p := c.pieces[at]
		done += copy(p[(off+done)%api.Size:], b[done:])
		c.put(at, p)
		c.size = max(c.size, off+done)
	}
}

func (c *content) resize(size int) {
	maps.DeleteFunc(c.pieces, func(at int, _ piece) bool { return at*api.Size >= size })
	at := size / api.Size
	p := c.pieces[at]
	clear(p[size%api.Size:])
	c.put(at, p)
	c.size = size
}

func (c *content) put(at int, p piece) {
	if p == (piece{}) {
		delete(c.pieces, at)
		return
	}
	c.pieces[at] = p
}
