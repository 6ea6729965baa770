package scan

import (
	"slices"

	"bollard/api"
	"bollard/dirs"
)

const (
	self   = "."
	parent = ".."
)

// takeTree goes through the directories to which the root leads, breadth first.
func (c *contents) takeTree() api.Errno {
	if !c.isDir(api.Root) {
		return api.ErrShape
	}
	c.reached[api.Root] = true
	for queue := []int{api.Root}; len(queue) > 0; queue = queue[1:] {
		met, why := c.enter(queue[0])
		if why != api.OK {
			return why
		}
		queue = append(queue, met...)
	}
	return api.OK
}

// enter takes a directory: the directories that are met there first.
func (c *contents) enter(dir int) ([]int, api.Errno) {
	entries, why := c.read(dir)
	if why != api.OK {
		return nil, why
	}
	if why := c.tryEntries(dir, entries); why != api.OK {
		return nil, why
	}
	c.entries[dir] = entries
	var met []int
	for _, e := range entries {
		c.links[e.Ino]++
		if isDots(e.Name) || c.reached[e.Ino] {
			continue
		}
		c.reached[e.Ino] = true
		if c.isDir(e.Ino) {
			met = append(met, e.Ino)
		}
	}
	return met, api.OK
}

// read is a directory's entries that are not empty, block by block.
func (c *contents) read(dir int) ([]api.Entry, api.Errno) {
	blocks := c.blocksOfSize(c.inodes[dir])
	if len(blocks) != c.inodes[dir].Size/api.Size {
		return nil, api.ErrShape
	}
	var entries []api.Entry
	for _, b := range blocks {
		page, why := dirs.Decode(c.image[b])
		if why != api.OK {
			return nil, api.ErrShape
		}
		entries = append(entries, slices.DeleteFunc(page, isEmpty)...)
	}
	return entries, api.OK
}

// blocksOfSize is those of a directory's blocks that lie within its Size, as
// far as they are there, in order.
func (c *contents) blocksOfSize(d api.Dinode) []int {
	var blocks []int
	c.follow(d, func(a address) api.Errno { // never refused: all of it was taken when the inode was
		if a.depth == 0 && a.number < d.Size/api.Size {
			blocks = append(blocks, a.block)
		}
		return api.OK
	})
	return blocks
}

// tryEntries refuses entries that can't stand together, and such as lead to
// nothing; all that lead nowhere ahead of those whose inode is not allocated.
func (c *contents) tryEntries(dir int, entries []api.Entry) api.Errno {
	named := map[string]int{}
	for _, e := range entries {
		if named[e.Name] != 0 {
			return api.ErrShape
		}
		named[e.Name] = e.Ino
	}
	switch {
	case named[self] != dir:
		return api.ErrShape
	case slices.ContainsFunc(entries, c.leadsNowhere):
		return api.ErrOut
	case slices.ContainsFunc(entries, c.isUnset):
		return api.ErrUnset
	}
	return api.OK
}

func (c *contents) leadsNowhere(e api.Entry) bool {
	return e.Ino >= len(c.inodes) || !isUsed(c.inodes[e.Ino])
}

func (c *contents) isUnset(e api.Entry) bool {
	return !c.hasInode(e.Ino)
}

// tryParents asks of each directory that is reached whether its .. leads to one
// in which it stands.
func (c *contents) tryParents() api.Errno {
	for dir := range c.inodes {
		if c.reached[dir] && c.isDir(dir) && !c.hasParent(dir) {
			return api.ErrShape
		}
	}
	return api.OK
}

func (c *contents) hasParent(dir int) bool {
	return slices.ContainsFunc(c.entries[dir], func(e api.Entry) bool {
		if e.Name != parent {
			return false
		}
		if dir == api.Root {
			return e.Ino == api.Root
		}
		return c.holds(e.Ino, dir)
	})
}

// holds tells whether a directory that is reached has a name of an inode.
func (c *contents) holds(dir, ino int) bool {
	return slices.ContainsFunc(c.entries[dir], func(e api.Entry) bool {
		return e.Ino == ino && !isDots(e.Name)
	})
}

func (c *contents) tryLinks() api.Errno {
	for ino, d := range c.inodes {
		if c.reached[ino] && d.Links < c.links[ino] {
			return api.ErrLow
		}
	}
	return api.OK
}

func isDots(name string) bool {
	return name == self || name == parent
}

func isEmpty(e api.Entry) bool {
	return e == api.Entry{}
}
