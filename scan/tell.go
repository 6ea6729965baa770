package scan

import "bollard/api"

// claims is the blocks of each inode that is used. (One that is not has none.)
func (c *contents) claims() []api.Claim {
	var out []api.Claim
	for ino, d := range c.inodes {
		c.follow(d, func(a address) api.Errno { // never refused: all of it was taken when the inode was
			out = append(out, api.Claim{Block: a.block, Ino: ino})
			return api.OK
		})
	}
	return out
}

func (c *contents) reach() []int {
	return c.inodesThat(func(ino int) bool { return c.reached[ino] })
}

func (c *contents) trueLinks() []api.Link {
	var out []api.Link
	for _, ino := range c.reach() {
		out = append(out, api.Link{Ino: ino, True: c.links[ino], Says: c.inodes[ino].Links})
	}
	return out
}

func (c *contents) leaks() api.Found {
	return api.Found{Blocks: c.leakedBlocks(), Inodes: c.leakedInodes(), Links: c.linksTooMany()}
}

// inodesThat is the inodes of which something is so, rising.
func (c *contents) inodesThat(so func(ino int) bool) []int {
	var out []int
	for ino := range c.inodes {
		if so(ino) {
			out = append(out, ino)
		}
	}
	return out
}
