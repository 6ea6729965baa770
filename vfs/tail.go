package vfs

import (
	"slices"

	"bollard/api"
	"bollard/file"
	"bollard/inode"
)

// A crash may leave bytes in a file's blocks behind its end: a write's, whose
// size did not reach the disk, or those that were cut off, and not made noughts
// there. A file that grows over such bytes must have noughts there.

func (c *change) write(ino, off int, bytes []byte) {
	if len(bytes) > 0 {
		c.level(ino, off)
	}
	c.try(func() api.Errno {
		_, why := file.Write(c.volume, c.geom, ino, off, bytes)
		return why
	})
}

func (c *change) truncate(ino, size int) {
	c.level(ino, size)
	c.try(func() api.Errno {
		_, why := file.Truncate(c.volume, c.geom, ino, size)
		return why
	})
}

// level makes noughts of what lies behind a file's end, up to a place.
func (c *change) level(ino, upTo int) {
	d := c.dinode(ino)
	for at := d.Size; at < upTo && c.why == api.OK; {
		from := at % api.Size
		end := min(api.Size, from+upTo-at)
		c.blank(d, at/api.Size, from, end)
		at += end - from
	}
}

// blank makes noughts of some bytes of a file's block, if they are not.
func (c *change) blank(d api.Dinode, number, from, end int) {
	c.try(func() api.Errno {
		b, why := inode.Addr(c.volume, c.geom, d, number)
		if why != api.OK || b == 0 {
			return why
		}
		bytes, why := c.volume.Read(b)
		if why != api.OK || !slices.ContainsFunc(bytes[from:end], isSome) {
			return why
		}
		_, why = c.volume.Change(b, from, make([]byte, end-from), nil)
		return why
	})
}

func isSome(b byte) bool {
	return b != 0
}
