package scan

import (
	"bollard/api"
	"bollard/layout"
)

// address leads from an inode, or from one of its indirect blocks, to a block.
type address struct {
	block  int // 0: none
	depth  int // how many indirect blocks deep it is: 0 of a block that holds bytes
	number int // the first of the inode's blocks to which it leads
}

// follow hands on all addresses of an inode that are not 0, an indirect block
// ahead of what stands in it, up to the first that visit refuses. What stands
// in an indirect block is read only when visit has taken that.
func (c *contents) follow(d api.Dinode, visit func(address) api.Errno) api.Errno {
	for _, a := range addressesOf(d) {
		if why := c.descend(a, visit); why != api.OK {
			return why
		}
	}
	return api.OK
}

func addressesOf(d api.Dinode) []address {
	var out []address
	for i, b := range d.Direct {
		out = append(out, address{block: b, number: i})
	}
	return append(out,
		address{block: d.Single, depth: 1, number: api.Direct},
		address{block: d.Double, depth: 2, number: api.Direct + api.Fan})
}

func (c *contents) descend(a address, visit func(address) api.Errno) api.Errno {
	if a.block == 0 {
		return api.OK
	}
	if why := visit(a); why != api.OK || a.depth == 0 {
		return why
	}
	fan, why := layout.DecodeFan(c.image[a.block])
	if why != api.OK {
		return api.ErrForm
	}
	for i, b := range fan {
		if why := c.descend(a.below(i, b), visit); why != api.OK {
			return why
		}
	}
	return api.OK
}

// below is the address in place i of the indirect block to which a leads.
func (a address) below(i, block int) address {
	width := 1 // how many blocks each place leads to
	for range a.depth - 1 {
		width *= api.Fan
	}
	return address{block: block, depth: a.depth - 1, number: a.number + i*width}
}
