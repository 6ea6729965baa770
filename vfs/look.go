package vfs

import (
	"slices"

	"bollard/api"
	"bollard/inode"
)

const mostUps = 512 // as many inodes as there may be: whoever goes up further goes round

func (c *change) dinode(ino int) api.Dinode {
	var d api.Dinode
	c.try(func() (why api.Errno) {
		d, why = c.get(ino)
		return why
	})
	return d
}

// up is the parent that a directory names.
func (c *change) up(dir int) int {
	up := none
	c.try(func() (why api.Errno) {
		up, why = c.lookup(dir, parent)
		return why
	})
	return up
}

// ups hands on the parent that a directory names, the one that this names, and
// so on, up to the root.
func (c *change) ups(dir int, visit func(up int)) {
	for range mostUps {
		if dir == api.Root || c.why != api.OK {
			return
		}
		dir = c.up(dir)
		visit(dir)
	}
}

// owed is what a directory still has to write.
func (c *change) owed(dir int) []int {
	var ids []int
	d := c.dinode(dir)
	c.try(func() api.Errno {
		blocks, why := inode.Span(c.volume, c.geom, d)
		for _, b := range blocks {
			ids = append(ids, c.volume.Pending(b)...)
		}
		return why
	})
	return ids
}

// way is what those still have to write that lead to a directory.
func (c *change) way(dir int) []int {
	var ids []int
	c.ups(dir, func(up int) { ids = append(ids, c.owed(up)...) })
	return ids
}

// reach is the patches that gave a directory, and those that lead to it, their
// names: behind these one comes to it on the disk, too. Nothing is read, if all
// names are there.
func (c *change) reach(dir int) []int {
	if len(c.trail.named) == 0 {
		return nil
	}
	ids := slices.Clone(c.trail.named[dir])
	c.ups(dir, func(up int) { ids = append(ids, c.trail.named[up]...) })
	return ids
}
