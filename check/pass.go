package check

import (
	"bollard/api"
	"bollard/bits"
	"bollard/geom"
)

const (
	self   = "."
	parent = ".."
)

// pass has so many steps, as far as that is known yet; a step is told how many
// came ahead of it.
type pass struct {
	steps int
	step  func(at int) ([]api.Request, api.Errno)
}

func (c *Checker) passes() []pass {
	g := c.snap.Geom()
	inodes := geom.Inodes(g)
	return []pass{
		{steps: inodes, step: c.claim},
		{steps: len(c.queue), step: c.enter},
		{steps: inodes - api.Root, step: c.judge},
		{steps: g.Groups, step: c.sweep},
	}
}

// passOn goes on to the next pass that has something to do, if there is nothing
// left of this one.
func (c *Checker) passOn() {
	all := c.passes()
	for c.pass < len(all) && c.at == all[c.pass].steps {
		c.pass, c.at = c.pass+1, 0
	}
}

// claim is a step of pass 1: an inode's blocks belong to it. The root is met
// here, so that it is known behind the last step whether there is a pass 2.
func (c *Checker) claim(ino int) ([]api.Request, api.Errno) {
	d, why := c.inode(ino)
	if why != api.OK {
		return nil, why
	}
	blocks, why := c.span(d, mostBlocks)
	if why != api.OK {
		return nil, why
	}
	for _, a := range blocks {
		c.owned[a.block] = true
	}
	if ino == api.Root && isDir(d) {
		c.meet(ino, d)
	}
	return nil, api.OK
}

// enter is a step of pass 2: a directory's entries are counted, and what they
// name is met.
func (c *Checker) enter(at int) ([]api.Request, api.Errno) {
	entries, why := c.entries(c.queue[at])
	if why != api.OK {
		return nil, why
	}
	for _, e := range entries {
		c.links[e.Ino]++
		if !c.mayMeet(e) {
			continue
		}
		d, why := c.inode(e.Ino)
		if why != api.OK {
			return nil, why
		}
		if isUsed(d) {
			c.meet(e.Ino, d)
		}
	}
	return nil, api.OK
}

// mayMeet tells whether an entry leads to an inode that was not met yet, and
// that there is.
func (c *Checker) mayMeet(e api.Entry) bool {
	isDots := e.Name == self || e.Name == parent
	return !isDots && e.Ino < geom.Inodes(c.snap.Geom()) && !c.met[e.Ino]
}

func (c *Checker) meet(ino int, d api.Dinode) {
	c.met[ino] = true
	if isDir(d) {
		c.queue = append(c.queue, ino)
	}
}

// judge is a step of pass 3: whether an inode leaks, or says too many links.
func (c *Checker) judge(at int) ([]api.Request, api.Errno) {
	ino := api.Root + at
	group, bit, _ := geom.Owner(c.snap.Geom(), ino)
	h, why := c.header(group)
	if why != api.OK {
		return nil, why
	}
	d, why := c.inode(ino)
	if why != api.OK {
		return nil, why
	}
	taken := bits.Has(h.Inodes[:], bit) || isUsed(d)
	switch {
	case c.met[ino] && d.Links > c.links[ino]:
		return []api.Request{c.ask(api.LowerLinks, ino, c.links[ino])}, api.OK
	case !c.met[ino] && taken && ino > api.Root:
		return []api.Request{c.ask(api.FreeInode, ino, 0)}, api.OK
	}
	return nil, api.OK
}

// sweep is a step of pass 4: which blocks of a group leak.
func (c *Checker) sweep(group int) ([]api.Request, api.Errno) {
	h, why := c.header(group)
	if why != api.OK {
		return nil, why
	}
	var asked []api.Request
	first, many, _ := geom.Data(c.snap.Geom(), group)
	for b := first; b < first+many; b++ {
		_, bit, _ := geom.Group(c.snap.Geom(), b)
		if bits.Has(h.Blocks[:], bit) && !c.owned[b] {
			asked = append(asked, c.ask(api.FreeBlock, b, 0))
		}
	}
	return asked, api.OK
}

func (c *Checker) ask(kind, n, to int) api.Request {
	return api.Request{Kind: kind, N: n, To: to, Gen: c.snap.Gen()}
}

func isUsed(d api.Dinode) bool {
	return d.Mode != api.ModeFree
}

func isDir(d api.Dinode) bool {
	return d.Mode == api.ModeDir
}
