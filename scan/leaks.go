package scan

import (
	"bollard/api"
	"bollard/geom"
)

func (c *contents) leakedBlocks() []int {
	var out []int
	for b := range c.image {
		if geom.IsData(c.geom, b) && c.hasBlock(b) && c.owners[b] == 0 {
			out = append(out, b)
		}
	}
	return out
}

// leakedInodes has what is used without being allocated, too.
func (c *contents) leakedInodes() []int {
	return c.inodesThat(func(ino int) bool {
		taken := c.hasInode(ino) || isUsed(c.inodes[ino])
		return ino > api.Root && taken && !c.reached[ino]
	})
}

func (c *contents) linksTooMany() []api.Link {
	var out []api.Link
	for _, l := range c.trueLinks() {
		if l.Says > l.True {
			out = append(out, l)
		}
	}
	return out
}
