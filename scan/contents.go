package scan

import (
	"bollard/api"
	"bollard/bits"
	"bollard/geom"
	"bollard/layout"
)

const (
	mostInodes = api.MaxGroups * api.MaxInodes
	firstUsed  = api.Root // the inodes ahead of it are never used
)

// contents is what an image holds, as far as it was gone through. What stands
// in it was not refused.
type contents struct {
	image  [][]byte
	geom   api.Geom
	groups []api.Group
	inodes []api.Dinode // by their numbers

	owners [api.MaxDisk]int // by block: the inode that has it; 0: none has

	entries [mostInodes][]api.Entry // by directory that is reached: those that are not empty, as they stand
	reached [mostInodes]bool        // by inode
	links   [mostInodes]int         // by inode: the true ones
}

// survey goes through an image, up to the first thing for which it is refused.
func survey(image [][]byte) (*contents, api.Errno) {
	g, why := geometry(image)
	if why != api.OK {
		return nil, why
	}
	c := &contents{image: image, geom: g}
	passes := []func() api.Errno{c.takeGroups, c.takeInodes, c.takeTree, c.tryParents, c.tryLinks}
	for _, pass := range passes {
		if why := pass(); why != api.OK {
			return nil, why
		}
	}
	return c, api.OK
}

func geometry(image [][]byte) (api.Geom, api.Errno) {
	for _, block := range image {
		if len(block) != api.Size {
			return api.Geom{}, api.ErrForm
		}
	}
	var first []byte // an image without blocks has no superblock that may be
	if len(image) > 0 {
		first = image[0]
	}
	super, why := layout.DecodeSuper(first)
	switch {
	case why != api.OK:
		return api.Geom{}, why
	case len(image) != geom.Blocks(super.Geom):
		return api.Geom{}, api.ErrGeom
	}
	return super.Geom, api.OK
}

func (c *contents) takeGroups() api.Errno {
	for group := range c.geom.Groups {
		block, _ := geom.Header(c.geom, group)
		h, why := layout.DecodeGroup(c.image[block])
		switch {
		case why != api.OK:
			return why
		case h.Number != group:
			return api.ErrForm
		}
		c.groups = append(c.groups, h)
	}
	return api.OK
}

// takeInodes claims the blocks of each inode ahead of looking at the next one.
func (c *contents) takeInodes() api.Errno {
	for ino := range geom.Inodes(c.geom) {
		block, at, _ := geom.Inode(c.geom, ino)
		d, why := layout.DecodeDinode(c.image[block][at : at+api.DinodeLen])
		switch {
		case why != api.OK:
			return why
		case isUsed(d) && ino < firstUsed:
			return api.ErrShape
		}
		c.inodes = append(c.inodes, d)
		if why := c.follow(d, c.claimFor(ino)); why != api.OK {
			return why
		}
	}
	return api.OK
}

// claimFor takes blocks for an inode, one by one.
func (c *contents) claimFor(ino int) func(address) api.Errno {
	return func(a address) api.Errno {
		switch {
		case !geom.IsData(c.geom, a.block):
			return api.ErrOut
		case c.owners[a.block] != 0:
			return api.ErrTwice
		case !c.hasBlock(a.block):
			return api.ErrUnset
		}
		c.owners[a.block] = ino
		return api.OK
	}
}

func isUsed(d api.Dinode) bool {
	return d.Mode != api.ModeFree
}

func (c *contents) isDir(ino int) bool {
	return c.inodes[ino].Mode == api.ModeDir
}

// hasBlock tells whether a block that there is is allocated.
func (c *contents) hasBlock(b int) bool {
	group, bit, _ := geom.Group(c.geom, b)
	return bits.Has(c.groups[group].Blocks[:], bit)
}

// hasInode tells whether an inode that there is is allocated.
func (c *contents) hasInode(ino int) bool {
	group, bit, _ := geom.Owner(c.geom, ino)
	return bits.Has(c.groups[group].Inodes[:], bit)
}
